/- What the laws' walks rest upon, part 6. -/
import Derived.OrdersHeld
import Derived.StillTail
import Derived.Deep.RegionHeld3
import Derived.Test.YtnnfkmjhaljplaaGreatDoorM02
import Derived.Test.YtnnfkmjhaljplaaGreatDoorM01
namespace Go.Proofs.YtnnfkmjhaljplaaGreatDoor
open Go
section
variable {P : Program} {ops : Array Oper} {Q : Exit → Act → World → Prop} {md : Region.Mode} {A S T : World → Prop} {m : Nat}
/-- Whatever order is picked from here on; S holds behind every operation that is carried out before number m. -/
def wpAnyF (P : Program) (md : Region.Mode) (ops : Array Oper) (Q : Exit → Act → World → Prop) (A S : World → Prop) (m : Nat) : Nat → Array Bool → Act → World → Prop
  | 0, listed, a, w => Region.ready md ops listed = [] ∧ Q .normal a w
  | fuel + 1, listed, a, w =>
    (Region.ready md ops listed = [] → Q .normal a w) ∧
    ∀ i ∈ Region.ready md ops listed, wpOp P ops Q i (fun a' w' => (A w' ∧ ((listed.setIfInBounds i true).getD m false = true ∨ S w')) ∧ wpAnyF P md ops Q A S m fuel (listed.setIfInBounds i true) a' w') a w
theorem wpAny_of_F : ∀ (fuel : Nat) (listed : Array Bool) (a : Act) (w : World), wpAnyF P md ops Q A S m fuel listed a w → wpAny P md ops Q fuel listed a w
  | 0, _, _, _, h => h
  | fuel + 1, _, _, _, h => ⟨h.1, fun i hi => wpOp_mono (fun a' w' h' => wpAny_of_F fuel _ a' w' h'.2) (h.2 i hi)⟩
/-- What is taken first yields in every world that meets T: in whatever world; or T is S, and number m waits for it. -/
theorem wpAnyF_first {i : Nat} {oi : Oper} {v : Value} (hi : ops[i]? = some oi) (hsel : ∀ (j : Nat) (o : Oper) cs b, ops[j]? = some o → o.op ≠ .select cs b)
    (hQ : ∀ c a w, Q (.panic c) (a.put oi.dst v) w → Q (.panic c) a w) (him : i ≠ m) (hT : (∀ w, A w → T w) ∨ ((∀ w, S w → T w) ∧ Region.waitsFor md ops m i = true)) :
    ∀ (fuel : Nat) (listed : Array Bool) (a : Act) (w : World), ((∀ w, A w → T w) ∨ listed.getD m false = false) →
      (∀ j oj, ops[j]? = some oj → j ≠ i → listed.getD j true = false → (∀ e ∈ oj.after, Region.binds md e = true → e.on ≠ i) → oi.apart ops oj = true) →
      i ∈ Region.ready md ops listed → YieldsIf P ops T oi v a → T w → (A w ∧ (listed.getD m false = true ∨ S w)) →
      wpAnyF P md ops Q A S m fuel (listed.setIfInBounds i true) (a.put oi.dst v) w → wpAnyF P md ops Q A S m (fuel + 1) listed a w := by
  intro fuel
  induction fuel with
  | zero =>
    intro listed a w hm hfree hr hy hS hC H
    refine ⟨fun h => (by rw [h] at hr; cases hr), fun j hj => ?_⟩
    by_cases hji : j = i
    · subst hji; exact hy.wpOp hi hS ⟨by rw [getD_set_ne false him]; exact hC, H⟩
    · have := ready_mono hj hji
      rw [H.1] at this
      cases this
  | succ fuel ih =>
    intro listed a w hm hfree hr hy hS hC H
    refine ⟨fun h => (by rw [h] at hr; cases hr), fun j hj => ?_⟩
    by_cases hji : j = i
    · subst hji; exact hy.wpOp hi hS ⟨by rw [getD_set_ne false him]; exact hC, H⟩
    · have h1 := H.2 j (ready_mono hj hji)
      obtain ⟨hjun, oj, hoj, hall⟩ := mem_ready.1 hj
      have hnot : ∀ e ∈ oj.after, Region.binds md e = true → e.on ≠ i := fun e he hb heq => by
        have h1 := hall e he hb
        rw [heq, getD_both (mem_ready.1 hr).1] at h1
        cases h1
      have h2 := wpOp_putIf hoj (hfree j oj hoj hji hjun hnot) (fun cs b => hsel i oi cs b hi) (fun cs b => hsel j oj cs b hoj) hQ hy h1
      have hfree' : ∀ k ok, ops[k]? = some ok → k ≠ i → (listed.setIfInBounds j true).getD k true = false →
          (∀ e ∈ ok.after, Region.binds md e = true → e.on ≠ i) → oi.apart ops ok = true := fun k ok hk hki hun hno => by
        refine hfree k ok hk hki ?_ hno
        by_cases hjk : j = k
        · subst hjk; exact hjun
        · rw [getD_set_ne true hjk] at hun; exact hun
      have hjm : (∀ w, A w → T w) ∨ (listed.setIfInBounds j true).getD m false = false := by
        rcases hT with hT | ⟨_, hw⟩
        · exact .inl hT
        · rcases hm with hm | hm
          · exact .inl hm
          · refine .inr ?_
            by_cases hjm : j = m
            · subst hjm
              obtain ⟨o', ho', e, he, hb, hon⟩ := Region.waitsFor_spec hw
              have : o' = oj := Option.some.inj (ho'.symm.trans hoj)
              subst this
              exact absurd hon (hnot e he hb)
            · rw [getD_set_ne false hjm]; exact hm
      have hback : ∀ w', (A w' ∧ (((listed.setIfInBounds i true).setIfInBounds j true).getD m false = true ∨ S w')) → (A w' ∧ ((listed.setIfInBounds j true).getD m false = true ∨ S w')) := fun w' h => by
        rw [Array.setIfInBounds_comm _ _ (Ne.symm hji), getD_set_ne false him] at h
        exact h
      have hTw : ∀ w', (A w' ∧ ((listed.setIfInBounds j true).getD m false = true ∨ S w')) → T w' := fun w' h => by
        rcases hT with hT | ⟨hST, _⟩
        · exact hT w' h.1
        · rcases hjm with hm | hm
          · exact hm w' h.1
          · rcases h.2 with h | h
            · rw [hm] at h; cases h
            · exact hST w' h
      refine wpOp_mono (fun a' w' h3 => ⟨hback w' h3.2.1, ih (listed.setIfInBounds j true) a' w' hjm hfree' (ready_mono hr (Ne.symm hji)) h3.1 (hTw w' (hback w' h3.2.1)) (hback w' h3.2.1) ?_⟩) h2
      rw [Array.setIfInBounds_comm _ _ hji]
      exact h3.2.2
/-- What yields in whatever world is taken first. -/
theorem wpAnyF_take {i : Nat} {oi : Oper} {v : Value} {fuel : Nat} {listed : Array Bool} {a : Act} {w : World} (hi : ops[i]? = some oi)
    (hs : Region.noSelect ops = true) (hf : Region.free md ops listed i = true) (hr : (Region.ready md ops listed).contains i = true) (him : i ≠ m)
    (hQ : ∀ c a w, Q (.panic c) (a.put oi.dst v) w → Q (.panic c) a w) (hS : A w ∧ (listed.getD m false = true ∨ S w)) (hy : YieldsIf P ops (fun _ => True) oi v a)
    (h : wpAnyF P md ops Q A S m fuel (listed.setIfInBounds i true) (a.put oi.dst v) w) : wpAnyF P md ops Q A S m (fuel + 1) listed a w :=
  wpAnyF_first (T := fun _ => True) hi (Region.noSelect_spec hs) hQ him (.inl fun _ _ => trivial) fuel listed a w (.inl fun _ _ => trivial) (Region.free_spec hi hf) (by simpa using hr) hy trivial hS h
/-- A load that number m waits for is taken first. -/
theorem wpAnyF_load {i : Nat} {oi : Oper} {v : Value} {fuel : Nat} {listed : Array Bool} {a : Act} {w : World} (hi : ops[i]? = some oi)
    (hs : Region.noSelect ops = true) (hf : Region.free md ops listed i = true) (hr : (Region.ready md ops listed).contains i = true) (him : i ≠ m)
    (hQ : ∀ c a w, Q (.panic c) (a.put oi.dst v) w → Q (.panic c) a w) (hS : A w ∧ S w) (hw : Region.waitsFor md ops m i = true) (hm : listed.getD m false = false) (hy : YieldsIf P ops S oi v a)
    (h : wpAnyF P md ops Q A S m fuel (listed.setIfInBounds i true) (a.put oi.dst v) w) : wpAnyF P md ops Q A S m (fuel + 1) listed a w :=
  wpAnyF_first (T := S) hi (Region.noSelect_spec hs) hQ him (.inr ⟨fun _ h => h, hw⟩) fuel listed a w (.inr hm) (Region.free_spec hi hf) (by simpa using hr) hy hS.2 ⟨hS.1, .inr hS.2⟩ h
/-- A load whose cell nothing turns is taken first. -/
theorem wpAnyF_keep {i : Nat} {oi : Oper} {v : Value} {fuel : Nat} {listed : Array Bool} {a : Act} {w : World} (hi : ops[i]? = some oi)
    (hs : Region.noSelect ops = true) (hf : Region.free md ops listed i = true) (hr : (Region.ready md ops listed).contains i = true) (him : i ≠ m)
    (hQ : ∀ c a w, Q (.panic c) (a.put oi.dst v) w → Q (.panic c) a w) (hS : A w ∧ (listed.getD m false = true ∨ S w)) (hy : YieldsIf P ops A oi v a)
    (h : wpAnyF P md ops Q A S m fuel (listed.setIfInBounds i true) (a.put oi.dst v) w) : wpAnyF P md ops Q A S m (fuel + 1) listed a w :=
  wpAnyF_first (T := A) hi (Region.noSelect_spec hs) hQ him (.inl fun _ h => h) fuel listed a w (.inl fun _ h => h) (Region.free_spec hi hf) (by simpa using hr) hy hS.1 hS h
/-- Each of the operations rs comes up next. -/
def AllReadyF (P : Program) (md : Region.Mode) (ops : Array Oper) (Q : Exit → Act → World → Prop) (A S : World → Prop) (m : Nat) (fuel : Nat) (listed : Array Bool) (a : Act) (w : World) (rs : List Nat) : Prop :=
  ∀ i ∈ rs, wpOp P ops Q i (fun a' w' => (A w' ∧ ((listed.setIfInBounds i true).getD m false = true ∨ S w')) ∧ wpAnyF P md ops Q A S m fuel (listed.setIfInBounds i true) a' w') a w
theorem AllReadyF.nil {fuel : Nat} {listed : Array Bool} {a : Act} {w : World} : AllReadyF P md ops Q A S m fuel listed a w [] := fun _ h => by cases h
/-- Before number m. -/
theorem AllReadyF.cons {fuel : Nat} {listed : Array Bool} {a : Act} {w : World} {i : Nat} {o : Oper} {rs : List Nat} (ho : ops[i]? = some o)
    (h : ∀ K' : Act → World → Prop, Shut (∀ a w, A w ∧ S w → (A w ∧ S w → wpAnyF P md ops Q A S m fuel (listed.setIfInBounds i true) a w) → K' a w) → if Region.wanted o (yielded ops a.tmps) = true then Oper.wp P o a w K' Q else K' (a.put o.dst undef) w)
    (hs : AllReadyF P md ops Q A S m fuel listed a w rs) : AllReadyF P md ops Q A S m fuel listed a w (i :: rs) := fun j hj => by
  rcases List.mem_cons.1 hj with rfl | hj
  · exact wpOp_step ho (fun K' hK => h K' (fun a w hS hW => hK a w ⟨⟨hS.1, .inr hS.2⟩, hW hS⟩))
  · exact hs j hj
/-- Number m, or one behind it. -/
theorem AllReadyF.last {fuel : Nat} {listed : Array Bool} {a : Act} {w : World} {i : Nat} {o : Oper} {rs : List Nat} (ho : ops[i]? = some o) (hl : (listed.setIfInBounds i true).getD m false = true)
    (h : ∀ K' : Act → World → Prop, Shut (∀ a w, A w → wpAnyF P md ops Q A S m fuel (listed.setIfInBounds i true) a w → K' a w) → if Region.wanted o (yielded ops a.tmps) = true then Oper.wp P o a w K' Q else K' (a.put o.dst undef) w)
    (hs : AllReadyF P md ops Q A S m fuel listed a w rs) : AllReadyF P md ops Q A S m fuel listed a w (i :: rs) := fun j hj => by
  rcases List.mem_cons.1 hj with rfl | hj
  · exact wpOp_step ho (fun K' hK => h K' (fun a w hA hW => hK a w ⟨⟨hA, .inl hl⟩, hW⟩))
  · exact hs j hj
theorem wpAnyF_ready {rs : List Nat} {fuel : Nat} {listed : Array Bool} {a : Act} {w : World} (hr : Region.ready md ops listed = rs) (hne : rs ≠ [])
    (h : AllReadyF P md ops Q A S m fuel listed a w rs) : wpAnyF P md ops Q A S m (fuel + 1) listed a w := ⟨fun h0 => absurd (hr ▸ h0) hne, hr ▸ h⟩
theorem wpAnyF_done {listed : Array Bool} {a : Act} {w : World} (hr : Region.ready md ops listed = []) (h : Q .normal a w) : ∀ fuel, wpAnyF P md ops Q A S m fuel listed a w
  | 0 => ⟨hr, h⟩
  | _ + 1 => ⟨fun _ => h, by rw [hr]; simp⟩
theorem wp_region_F {id : Nat} {a : Act} {w : World} (m : Nat) (A S : World → Prop) (hm : P.follows .mixedOrders = true) (hS : A w.drew ∧ S w.drew)
    (h : A w.drew ∧ S w.drew → wpAnyF P .any ops Q A S m ops.size (Array.replicate ops.size false) a w.drew) : (Code.region id ops true).wp P Q a w :=
  wp_region_any hm (wpAny_of_F (m := m) (A := A) (S := S) _ _ _ _ (h hS))
end
end Go.Proofs.YtnnfkmjhaljplaaGreatDoor
namespace Go.Proofs.YtnnfkmjhaljplaaGreatDoor
open Go.RowKit
theorem info_events : (Tryz.prog.info? 45).map (fun i => (i.zero, i.size, i.bytes)) = some (some (.slice none 0 0), 1, 24) := by kernel_rfl
end Go.Proofs.YtnnfkmjhaljplaaGreatDoor
namespace Go.Proofs.YtnnfkmjhaljplaaGreatDoor
open Go.RowKit
theorem trF_few {t : List (List Ev)} (h : 1 ≤ t.length ∧ t.length ≤ 4) : trF t = stsF t := if_pos h
theorem trF_many {t : List (List Ev)} (h : ¬ (1 ≤ t.length ∧ t.length ≤ 4)) : trF t = 2 := if_neg h
set_option maxRecDepth 100000 in
set_option maxHeartbeats 400000 in
theorem implTrF_any (t : List (List Ev)) (A : Option Addr) (c : Nat) (w : World) (hm : t.length ≤ maxLen) (h : RdT w w.heap.size A t) :
    Calls Tryz.prog 151 #[.slice A t.length c] w fun e w' => e = .returned (.int .i64 (trF t)) ∧ Below w.heap.size w w' := by
  unfold maxLen at hm
  by_cases h14 : 1 ≤ (t.length : Int) ∧ (t.length : Int) ≤ 4
  · have HF := hide (trF_few (t := t) (by omega))
    go_enter Tryz.func151, Tryz.ntmps151
    go_wp2_with fail
    refine (allWithin_one _ _ _ _ _ _ (by simp [go_sem]) h14).mono ?_
    rintro e w' ⟨rfl, rfl⟩
    go_wp2
    go_loopw [13] (fun i wr => ∃ k : Nat, k ≤ t.length ∧ i = .int .i64 k ∧ Below w.heap.size w wr ∧ Hid (stsF t = stsF (t.drop k))) (fun i _ => t.length - (intOf i).toNat)
    case atStart => exact ⟨0, Nat.zero_le _, rfl, (Below.refl _ _).alloc (Nat.le_refl _) _, hide rfl⟩
    case round =>
      obtain ⟨k, hk, rfl, hb, HR⟩ := hrel
      by_cases hlt : k < t.length
      · obtain ⟨b, off, a, d, rfl, hbb, hc0, hle, hcm, hr⟩ := (h.below hb).get hlt
        have IM := hide (fun W => implStF_any t[k] a d W (by omega))
        by_cases h0 : stF t[k] = 0
        · have HN := hide (stsF_next hlt h0)
          rw [h0] at IM
          clear h0
          go_wp2_with fail
          refine (IM.out _ hr.lt).mono ?_
          rintro e w2 ⟨rfl, hb2⟩
          have hb3 := hb.trans (hb2.mono hb.size)
          go_wp2
          go_roundw
          case rel => exact ⟨k + 1, by omega, by go_num, hb3, hide (HR.out.trans HN.out)⟩
          case measure => simp [intOf]; omega
        · have HN := hide (stsF_stop hlt h0)
          obtain ⟨F, hF⟩ : ∃ F, F = stF t[k] := ⟨_, rfl⟩
          rw [← hF] at h0 HN IM
          have f0 : (F != 0) = true := bne_iff_ne.2 h0
          have f1 : (F == 0) = false := beq_eq_false_iff_ne.2 h0
          clear h0 hF
          go_wp2_with fail
          refine (IM.out _ hr.lt).mono ?_
          rintro e w2 ⟨rfl, hb2⟩
          have hb3 := hb.trans (hb2.mono hb.size)
          go_wp2
          go_ret
          exact ⟨ret_int (by rw [HF.out, HR.out, HN.out]), hb3⟩
      · have HN := hide (stsF_end hlt)
        go_wp2
        go_ret
        exact ⟨ret_int (by rw [HF.out, HR.out, HN.out]), hb⟩
  · rw [trF_many (by omega)]
    have h14' : (t.length : Int) < 1 ∨ 4 < (t.length : Int) := by omega
    clear h14
    go_enter Tryz.func151, Tryz.ntmps151
    go_wp2_with fail
    refine (allWithin_not _ _ _ _ _ _ (by simp [go_sem]) h14').mono ?_
    rintro e w' ⟨rfl, rfl⟩
    go_wp2
    go_ret
    exact ⟨rfl, by go_grown⟩
set_option maxRecDepth 100000 in
set_option maxHeartbeats 400000 in
theorem specTrF_any (t : List (List Ev)) (A : Option Addr) (c : Nat) (w : World) (hm : t.length ≤ maxLen) (h : RdT w w.heap.size A t) :
    Calls Tryz.prog 97 #[.slice A t.length c] w fun e w' => e = .returned (.int .i64 (trF t)) ∧ Below w.heap.size w w' := by
  unfold maxLen at hm
  by_cases h14 : 1 ≤ (t.length : Int) ∧ (t.length : Int) ≤ 4
  · have HF := hide (trF_few (t := t) (by omega))
    obtain ⟨h1, h4⟩ := h14
    go_enter Tryz.func97, Tryz.ntmps97
    go_wp2
    go_loopw [15] (fun i wr => ∃ k : Nat, k ≤ t.length ∧ i = .int .i64 k ∧ Below w.heap.size w wr ∧ Hid (stsF t = stsF (t.drop k))) (fun i _ => t.length - (intOf i).toNat)
    case atStart => exact ⟨0, Nat.zero_le _, rfl, Below.refl _ _, hide rfl⟩
    case round =>
      obtain ⟨k, hk, rfl, hb, HR⟩ := hrel
      by_cases hlt : k < t.length
      · obtain ⟨b, off, a, d, rfl, hbb, hc0, hle, hcm, hr⟩ := (h.below hb).get hlt
        have IM := hide (fun W => specStF_any t[k] a d W (by omega))
        by_cases h0 : stF t[k] = 0
        · have HN := hide (stsF_next hlt h0)
          rw [h0] at IM
          clear h0
          go_wp2_with fail
          refine (IM.out _ hr.lt).mono ?_
          rintro e w2 ⟨rfl, hb2⟩
          have hb3 := hb.trans (hb2.mono hb.size)
          go_wp2
          go_roundw
          case rel => exact ⟨k + 1, by omega, by go_num, hb3, hide (HR.out.trans HN.out)⟩
          case measure => simp [intOf]; omega
        · have HN := hide (stsF_stop hlt h0)
          obtain ⟨F, hF⟩ : ∃ F, F = stF t[k] := ⟨_, rfl⟩
          rw [← hF] at h0 HN IM
          have f0 : (F != 0) = true := bne_iff_ne.2 h0
          have f1 : (F == 0) = false := beq_eq_false_iff_ne.2 h0
          clear h0 hF
          go_wp2_with fail
          refine (IM.out _ hr.lt).mono ?_
          rintro e w2 ⟨rfl, hb2⟩
          have hb3 := hb.trans (hb2.mono hb.size)
          go_wp2
          go_ret
          exact ⟨ret_int (by rw [HF.out, HR.out, HN.out]), hb3⟩
      · have HN := hide (stsF_end hlt)
        go_wp2
        go_ret
        exact ⟨ret_int (by rw [HF.out, HR.out, HN.out]), hb⟩
  · rw [trF_many (by omega)]
    by_cases h1 : 1 ≤ t.length
    · have h4 : 4 < t.length := by omega
      clear h14
      go_enter Tryz.func97, Tryz.ntmps97
      go_wp2
      go_ret
      exact ⟨rfl, Below.refl _ _⟩
    · have h4 : t.length < 1 := by omega
      clear h14
      go_enter Tryz.func97, Tryz.ntmps97
      go_wp2
      go_ret
      exact ⟨rfl, Below.refl _ _⟩
end Go.Proofs.YtnnfkmjhaljplaaGreatDoor
