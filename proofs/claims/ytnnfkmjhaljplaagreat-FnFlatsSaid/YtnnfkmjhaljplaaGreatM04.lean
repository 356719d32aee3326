/- What the laws' walks rest upon, part 4. -/
import Derived.OrdersHeld
import Derived.StillTail
import Derived.Deep.RegionHeld3
import Derived.Test.YtnnfkmjhaljplaaGreatM02
import Derived.Test.YtnnfkmjhaljplaaGreatM03
import Derived.StillTailTactics
import Derived.OneCell
namespace Go.Proofs.YtnnfkmjhaljplaaGreat
open Go
section
variable {P : Program} {ops : Array Oper} {Q : Exit → Act → World → Prop} {md : Region.Mode} {A S T : World → Prop} {m : Nat}
/-- Whatever order is picked from here on; S holds behind every operation that is carried out before number m. -/
def wpAnyF (P : Program) (md : Region.Mode) (ops : Array Oper) (Q : Exit → Act → World → Prop) (A S : World → Prop) (m : Nat) : Nat → Array Bool → Act → World → Prop
  | 0, listed, a, w => Region.ready md ops listed = [] ∧ Q .normal a w
  | fuel + 1, listed, a, w =>
    (Region.ready md ops listed = [] → Q .normal a w) ∧
    ∀ i ∈ Region.ready md ops listed, wpOp P ops Q i (fun a' w' => (A w' ∧ ((listed.setIfInBounds i true).getD m false = true ∨ S w')) ∧ wpAnyF P md ops Q A S m fuel (listed.setIfInBounds i true) a' w') a w
theorem wpAny_of_F : ∀ (fuel : Nat) (listed : Array Bool) (a : Act) (w : World), wpAnyF P md ops Q A S m fuel listed a w → wpAny P md ops Q fuel listed a w
  | 0, _, _, _, h => h
  | fuel + 1, _, _, _, h => ⟨h.1, fun i hi => wpOp_mono (fun a' w' h' => wpAny_of_F fuel _ a' w' h'.2) (h.2 i hi)⟩
/-- What is taken first yields in every world that meets T: in whatever world; or T is S, and number m waits for it. -/
theorem wpAnyF_first {i : Nat} {oi : Oper} {v : Value} (hi : ops[i]? = some oi) (hsel : ∀ (j : Nat) (o : Oper) cs b, ops[j]? = some o → o.op ≠ .select cs b)
    (hQ : ∀ c a w, Q (.panic c) (a.put oi.dst v) w → Q (.panic c) a w) (him : i ≠ m) (hT : (∀ w, A w → T w) ∨ ((∀ w, S w → T w) ∧ Region.waitsFor md ops m i = true)) :
    ∀ (fuel : Nat) (listed : Array Bool) (a : Act) (w : World), ((∀ w, A w → T w) ∨ listed.getD m false = false) →
      (∀ j oj, ops[j]? = some oj → j ≠ i → listed.getD j true = false → (∀ e ∈ oj.after, Region.binds md e = true → e.on ≠ i) → oi.apart ops oj = true) →
      i ∈ Region.ready md ops listed → YieldsIf P ops T oi v a → T w → (A w ∧ (listed.getD m false = true ∨ S w)) →
      wpAnyF P md ops Q A S m fuel (listed.setIfInBounds i true) (a.put oi.dst v) w → wpAnyF P md ops Q A S m (fuel + 1) listed a w := by
  intro fuel
  induction fuel with
  | zero =>
    intro listed a w hm hfree hr hy hS hC H
    refine ⟨fun h => (by rw [h] at hr; cases hr), fun j hj => ?_⟩
    by_cases hji : j = i
    · subst hji; exact hy.wpOp hi hS ⟨by rw [getD_set_ne false him]; exact hC, H⟩
    · have := ready_mono hj hji
      rw [H.1] at this
      cases this
  | succ fuel ih =>
    intro listed a w hm hfree hr hy hS hC H
    refine ⟨fun h => (by rw [h] at hr; cases hr), fun j hj => ?_⟩
    by_cases hji : j = i
    · subst hji; exact hy.wpOp hi hS ⟨by rw [getD_set_ne false him]; exact hC, H⟩
    · have h1 := H.2 j (ready_mono hj hji)
      obtain ⟨hjun, oj, hoj, hall⟩ := mem_ready.1 hj
      have hnot : ∀ e ∈ oj.after, Region.binds md e = true → e.on ≠ i := fun e he hb heq => by
        have h1 := hall e he hb
        rw [heq, getD_both (mem_ready.1 hr).1] at h1
        cases h1
      have h2 := wpOp_putIf hoj (hfree j oj hoj hji hjun hnot) (fun cs b => hsel i oi cs b hi) (fun cs b => hsel j oj cs b hoj) hQ hy h1
      have hfree' : ∀ k ok, ops[k]? = some ok → k ≠ i → (listed.setIfInBounds j true).getD k true = false →
          (∀ e ∈ ok.after, Region.binds md e = true → e.on ≠ i) → oi.apart ops ok = true := fun k ok hk hki hun hno => by
        refine hfree k ok hk hki ?_ hno
        by_cases hjk : j = k
        · subst hjk; exact hjun
        · rw [getD_set_ne true hjk] at hun; exact hun
      have hjm : (∀ w, A w → T w) ∨ (listed.setIfInBounds j true).getD m false = false := by
        rcases hT with hT | ⟨_, hw⟩
        · exact .inl hT
        · rcases hm with hm | hm
          · exact .inl hm
          · refine .inr ?_
            by_cases hjm : j = m
            · subst hjm
              obtain ⟨o', ho', e, he, hb, hon⟩ := Region.waitsFor_spec hw
              have : o' = oj := Option.some.inj (ho'.symm.trans hoj)
              subst this
              exact absurd hon (hnot e he hb)
            · rw [getD_set_ne false hjm]; exact hm
      have hback : ∀ w', (A w' ∧ (((listed.setIfInBounds i true).setIfInBounds j true).getD m false = true ∨ S w')) → (A w' ∧ ((listed.setIfInBounds j true).getD m false = true ∨ S w')) := fun w' h => by
        rw [Array.setIfInBounds_comm _ _ (Ne.symm hji), getD_set_ne false him] at h
        exact h
      have hTw : ∀ w', (A w' ∧ ((listed.setIfInBounds j true).getD m false = true ∨ S w')) → T w' := fun w' h => by
        rcases hT with hT | ⟨hST, _⟩
        · exact hT w' h.1
        · rcases hjm with hm | hm
          · exact hm w' h.1
          · rcases h.2 with h | h
            · rw [hm] at h; cases h
            · exact hST w' h
      refine wpOp_mono (fun a' w' h3 => ⟨hback w' h3.2.1, ih (listed.setIfInBounds j true) a' w' hjm hfree' (ready_mono hr (Ne.symm hji)) h3.1 (hTw w' (hback w' h3.2.1)) (hback w' h3.2.1) ?_⟩) h2
      rw [Array.setIfInBounds_comm _ _ hji]
      exact h3.2.2
/-- What yields in whatever world is taken first. -/
theorem wpAnyF_take {i : Nat} {oi : Oper} {v : Value} {fuel : Nat} {listed : Array Bool} {a : Act} {w : World} (hi : ops[i]? = some oi)
    (hs : Region.noSelect ops = true) (hf : Region.free md ops listed i = true) (hr : (Region.ready md ops listed).contains i = true) (him : i ≠ m)
    (hQ : ∀ c a w, Q (.panic c) (a.put oi.dst v) w → Q (.panic c) a w) (hS : A w ∧ (listed.getD m false = true ∨ S w)) (hy : YieldsIf P ops (fun _ => True) oi v a)
    (h : wpAnyF P md ops Q A S m fuel (listed.setIfInBounds i true) (a.put oi.dst v) w) : wpAnyF P md ops Q A S m (fuel + 1) listed a w :=
  wpAnyF_first (T := fun _ => True) hi (Region.noSelect_spec hs) hQ him (.inl fun _ _ => trivial) fuel listed a w (.inl fun _ _ => trivial) (Region.free_spec hi hf) (by simpa using hr) hy trivial hS h
/-- A load that number m waits for is taken first. -/
theorem wpAnyF_load {i : Nat} {oi : Oper} {v : Value} {fuel : Nat} {listed : Array Bool} {a : Act} {w : World} (hi : ops[i]? = some oi)
    (hs : Region.noSelect ops = true) (hf : Region.free md ops listed i = true) (hr : (Region.ready md ops listed).contains i = true) (him : i ≠ m)
    (hQ : ∀ c a w, Q (.panic c) (a.put oi.dst v) w → Q (.panic c) a w) (hS : A w ∧ S w) (hw : Region.waitsFor md ops m i = true) (hm : listed.getD m false = false) (hy : YieldsIf P ops S oi v a)
    (h : wpAnyF P md ops Q A S m fuel (listed.setIfInBounds i true) (a.put oi.dst v) w) : wpAnyF P md ops Q A S m (fuel + 1) listed a w :=
  wpAnyF_first (T := S) hi (Region.noSelect_spec hs) hQ him (.inr ⟨fun _ h => h, hw⟩) fuel listed a w (.inr hm) (Region.free_spec hi hf) (by simpa using hr) hy hS.2 ⟨hS.1, .inr hS.2⟩ h
/-- A load whose cell nothing turns is taken first. -/
theorem wpAnyF_keep {i : Nat} {oi : Oper} {v : Value} {fuel : Nat} {listed : Array Bool} {a : Act} {w : World} (hi : ops[i]? = some oi)
    (hs : Region.noSelect ops = true) (hf : Region.free md ops listed i = true) (hr : (Region.ready md ops listed).contains i = true) (him : i ≠ m)
    (hQ : ∀ c a w, Q (.panic c) (a.put oi.dst v) w → Q (.panic c) a w) (hS : A w ∧ (listed.getD m false = true ∨ S w)) (hy : YieldsIf P ops A oi v a)
    (h : wpAnyF P md ops Q A S m fuel (listed.setIfInBounds i true) (a.put oi.dst v) w) : wpAnyF P md ops Q A S m (fuel + 1) listed a w :=
  wpAnyF_first (T := A) hi (Region.noSelect_spec hs) hQ him (.inl fun _ h => h) fuel listed a w (.inl fun _ h => h) (Region.free_spec hi hf) (by simpa using hr) hy hS.1 hS h
/-- Each of the operations rs comes up next. -/
def AllReadyF (P : Program) (md : Region.Mode) (ops : Array Oper) (Q : Exit → Act → World → Prop) (A S : World → Prop) (m : Nat) (fuel : Nat) (listed : Array Bool) (a : Act) (w : World) (rs : List Nat) : Prop :=
  ∀ i ∈ rs, wpOp P ops Q i (fun a' w' => (A w' ∧ ((listed.setIfInBounds i true).getD m false = true ∨ S w')) ∧ wpAnyF P md ops Q A S m fuel (listed.setIfInBounds i true) a' w') a w
theorem AllReadyF.nil {fuel : Nat} {listed : Array Bool} {a : Act} {w : World} : AllReadyF P md ops Q A S m fuel listed a w [] := fun _ h => by cases h
/-- Before number m. -/
theorem AllReadyF.cons {fuel : Nat} {listed : Array Bool} {a : Act} {w : World} {i : Nat} {o : Oper} {rs : List Nat} (ho : ops[i]? = some o)
    (h : ∀ K' : Act → World → Prop, Shut (∀ a w, A w ∧ S w → (A w ∧ S w → wpAnyF P md ops Q A S m fuel (listed.setIfInBounds i true) a w) → K' a w) → if Region.wanted o (yielded ops a.tmps) = true then Oper.wp P o a w K' Q else K' (a.put o.dst undef) w)
    (hs : AllReadyF P md ops Q A S m fuel listed a w rs) : AllReadyF P md ops Q A S m fuel listed a w (i :: rs) := fun j hj => by
  rcases List.mem_cons.1 hj with rfl | hj
  · exact wpOp_step ho (fun K' hK => h K' (fun a w hS hW => hK a w ⟨⟨hS.1, .inr hS.2⟩, hW hS⟩))
  · exact hs j hj
/-- Number m, or one behind it. -/
theorem AllReadyF.last {fuel : Nat} {listed : Array Bool} {a : Act} {w : World} {i : Nat} {o : Oper} {rs : List Nat} (ho : ops[i]? = some o) (hl : (listed.setIfInBounds i true).getD m false = true)
    (h : ∀ K' : Act → World → Prop, Shut (∀ a w, A w → wpAnyF P md ops Q A S m fuel (listed.setIfInBounds i true) a w → K' a w) → if Region.wanted o (yielded ops a.tmps) = true then Oper.wp P o a w K' Q else K' (a.put o.dst undef) w)
    (hs : AllReadyF P md ops Q A S m fuel listed a w rs) : AllReadyF P md ops Q A S m fuel listed a w (i :: rs) := fun j hj => by
  rcases List.mem_cons.1 hj with rfl | hj
  · exact wpOp_step ho (fun K' hK => h K' (fun a w hA hW => hK a w ⟨⟨hA, .inl hl⟩, hW⟩))
  · exact hs j hj
theorem wpAnyF_ready {rs : List Nat} {fuel : Nat} {listed : Array Bool} {a : Act} {w : World} (hr : Region.ready md ops listed = rs) (hne : rs ≠ [])
    (h : AllReadyF P md ops Q A S m fuel listed a w rs) : wpAnyF P md ops Q A S m (fuel + 1) listed a w := ⟨fun h0 => absurd (hr ▸ h0) hne, hr ▸ h⟩
theorem wpAnyF_done {listed : Array Bool} {a : Act} {w : World} (hr : Region.ready md ops listed = []) (h : Q .normal a w) : ∀ fuel, wpAnyF P md ops Q A S m fuel listed a w
  | 0 => ⟨hr, h⟩
  | _ + 1 => ⟨fun _ => h, by rw [hr]; simp⟩
theorem wp_region_F {id : Nat} {a : Act} {w : World} (m : Nat) (A S : World → Prop) (hm : P.follows .mixedOrders = true) (hS : A w.drew ∧ S w.drew)
    (h : A w.drew ∧ S w.drew → wpAnyF P .any ops Q A S m ops.size (Array.replicate ops.size false) a w.drew) : (Code.region id ops true).wp P Q a w :=
  wp_region_any hm (wpAny_of_F (m := m) (A := A) (S := S) _ _ _ _ (h hS))
end
end Go.Proofs.YtnnfkmjhaljplaaGreat
namespace Go.Proofs.YtnnfkmjhaljplaaGreat
open Go.RowKit
theorem info_step : (Tryz.prog.info? 66).map (fun i => (i.zero, i.size, i.bytes)) = some (some (.agg #[.int .i64 0, .int .i64 0, .int .i64 0, .int .i64 0]), 4, 32) := by kernel_rfl
def zeroP : Stp := ⟨0, zeroE⟩
theorem stps_zero : ∀ n : Nat, stps (List.replicate n zeroP) = List.replicate (n * 4) (.int .i64 0)
  | 0 => rfl
  | n + 1 => by
    rw [List.replicate_succ, stps, stps_zero n, show (n + 1) * 4 = n * 4 + 1 + 1 + 1 + 1 by omega, List.replicate_succ, List.replicate_succ, List.replicate_succ, List.replicate_succ]
    rfl
theorem made_step (n : Nat) : (madeCells (Value.agg #[.int .i64 0, .int .i64 0, .int .i64 0, .int .i64 0]).cells (n * 4)).toList = List.replicate (n * 4) (Value.int .i64 0) := by
  apply List.ext_getElem
  · simp [madeCells]
  · intro i h1 h2
    simp only [madeCells, Value.cells, Array.getElem_toList, List.getElem_replicate]
    rcases (show i % 4 = 0 ∨ i % 4 = 1 ∨ i % 4 = 2 ∨ i % 4 = 3 by omega) with h | h | h | h <;> simp [h]
end Go.Proofs.YtnnfkmjhaljplaaGreat
namespace Go.Proofs.YtnnfkmjhaljplaaGreat
open Go.RowKit
theorem info_i64 : (Tryz.prog.info? 2).map (fun i => (i.zero, i.size, i.bytes)) = some (some (.int .i64 0), 1, 8) := by kernel_rfl
theorem made_i64 (n : Nat) : (madeCells (Value.int .i64 0).cells (n * 1)).toList = List.replicate n (Value.int .i64 0) := by
  apply List.ext_getElem
  · simp [madeCells]
  · intro i h1 h2
    simp [madeCells, Value.cells, Nat.mod_one]
end Go.Proofs.YtnnfkmjhaljplaaGreat
namespace Go.Proofs.YtnnfkmjhaljplaaGreat
open Go.RowKit
/-- Numbers within their bounds, as the program asks it. -/
theorem allWithin_all (l : List Int) (A : Option Addr) (c : Nat) (lo hi : Int) (w : World) (hm : l.length ≤ 1000) (h : Rd .i64 w w.heap.size A l) (hin : ∀ n ∈ l, lo ≤ n ∧ n ≤ hi) :
    Calls Tryz.prog 38 #[.int .i64 lo, .int .i64 hi, .slice A l.length c] w fun e w' => e = .returned (.bool true) ∧ w = w' := by
  go_enter Tryz.func38, Tryz.ntmps38
  go_wp2
  go_loop [11] (fun i => ∃ j : Nat, j ≤ l.length ∧ i = .int .i64 j) (fun i => l.length - (intOf i).toNat)
  case atStart => exact ⟨0, by omega, rfl⟩
  case round =>
    obtain ⟨j, hj, rfl⟩ := hrel
    by_cases h0 : j < l.length
    · obtain ⟨b, off, rfl, hb, hc⟩ := h.get h0
      obtain ⟨h1, h2⟩ := hin _ (List.getElem_mem h0)
      go_wp2
      go_round
      case rel => exact ⟨j + 1, by omega, by go_num⟩
      case measure => simp [intOf]; omega
    · go_wp2
      go_ret
      exact ⟨rfl, rfl⟩
theorem allWithin_some (l : List Int) (A : Option Addr) (c : Nat) (lo hi : Int) (w : World) (hm : l.length ≤ 1000) (h : Rd .i64 w w.heap.size A l) (hin : ¬ ∀ n ∈ l, lo ≤ n ∧ n ≤ hi) :
    Calls Tryz.prog 38 #[.int .i64 lo, .int .i64 hi, .slice A l.length c] w fun e w' => e = .returned (.bool false) ∧ w = w' := by
  have HN := hide hin
  clear hin
  go_enter Tryz.func38, Tryz.ntmps38
  go_wp2
  go_loop [11] (fun i => ∃ j : Nat, j ≤ l.length ∧ i = .int .i64 j ∧ Hid (∀ k, (hk : k < l.length) → k < j → lo ≤ l[k] ∧ l[k] ≤ hi)) (fun i => l.length - (intOf i).toNat)
  case atStart => exact ⟨0, by omega, rfl, hide fun k _ h => by omega⟩
  case round =>
    obtain ⟨j, hj, rfl, HJ⟩ := hrel
    by_cases h0 : j < l.length
    · obtain ⟨b, off, rfl, hb, hc⟩ := h.get h0
      by_cases h1 : lo ≤ l[j]
      · by_cases h2 : l[j] ≤ hi
        · have HJ2 := hide (show ∀ k, (hk : k < l.length) → k < j + 1 → lo ≤ l[k] ∧ l[k] ≤ hi from fun k hk hkj => by
            by_cases hh : k = j
            · subst hh; exact ⟨h1, h2⟩
            · exact HJ.out k hk (by omega))
          go_wp2
          go_round
          case rel => exact ⟨j + 1, by omega, by go_num, HJ2⟩
          case measure => simp [intOf]; omega
        · go_wp2
          go_ret
          exact ⟨rfl, rfl⟩
      · go_wp2
        go_ret
        exact ⟨rfl, rfl⟩
    · exfalso
      refine HN.out fun n hn => ?_
      obtain ⟨k, hk, rfl⟩ := List.getElem_of_mem hn
      exact HJ.out k hk (by omega)
/-- The counts of the cores, as the program keeps them. -/
def cntA (ss : List Stp) : Array Value := #[.int .i64 (cntL ss 0), .int .i64 (cntL ss 1), .int .i64 (cntL ss 2), .int .i64 (cntL ss 3)]
theorem cntA_get (ss : List Stp) (i : Nat) (h : i < 4) : (cntA ss)[i]? = some (.int .i64 (cntL ss i)) := by
  rcases (show i = 0 ∨ i = 1 ∨ i = 2 ∨ i = 3 by omega) with rfl | rfl | rfl | rfl <;> rfl
theorem cntA_set (ss : List Stp) (s : Stp) (i : Nat) (hi : s.c = (i : Int)) (h : i < 4) : (cntA ss).setIfInBounds i (.int .i64 ((cntL ss i : Nat) + 1 : Int)) = cntA (ss ++ [s]) := by
  have hit : ∀ j : Int, s.c = j → (((cntL (ss ++ [s]) j : Nat) : Int)) = (cntL ss j : Nat) + 1 := fun j hj => by rw [cntL_hit ss s j hj]; rfl
  rcases (show i = 0 ∨ i = 1 ∨ i = 2 ∨ i = 3 by omega) with rfl | rfl | rfl | rfl
  · unfold cntA; rw [hit 0 hi, cntL_miss ss s 1 (by omega), cntL_miss ss s 2 (by omega), cntL_miss ss s 3 (by omega)]; simp
  · unfold cntA; rw [hit 1 hi, cntL_miss ss s 0 (by omega), cntL_miss ss s 2 (by omega), cntL_miss ss s 3 (by omega)]; simp
  · unfold cntA; rw [hit 2 hi, cntL_miss ss s 0 (by omega), cntL_miss ss s 1 (by omega), cntL_miss ss s 3 (by omega)]; simp
  · unfold cntA; rw [hit 3 hi, cntL_miss ss s 0 (by omega), cntL_miss ss s 1 (by omega), cntL_miss ss s 2 (by omega)]; simp
def cntI (ss : List Stp) : List Int := [(cntL ss 0 : Nat), (cntL ss 1 : Nat), (cntL ss 2 : Nat), (cntL ss 3 : Nat)]
theorem cntI_few (ss : List Stp) : (∀ n ∈ cntI ss, (0 : Int) ≤ n ∧ n ≤ 8) ↔ fewL ss := by
  simp only [cntI, List.mem_cons, List.not_mem_nil, or_false, forall_eq_or_imp, forall_eq, fewL]
  omega
theorem cntI_rd {w : World} {g : Nat} {ss : List Stp} {t : TypeId} (h : Bk w g (cntA ss) t) : Rd .i64 w w.heap.size (some ⟨g, 0, none⟩) (cntI ss) := by
  intro _
  refine ⟨g, 0, rfl, h.lt, fun i hi => ?_⟩
  have hi4 : i < 4 := by simpa [cntI] using hi
  rw [Nat.zero_add, h.cell i, cntA_get ss i hi4]
  rcases (show i = 0 ∨ i = 1 ∨ i = 2 ∨ i = 3 by omega) with rfl | rfl | rfl | rfl <;> rfl
end Go.Proofs.YtnnfkmjhaljplaaGreat
namespace Go.Proofs.YtnnfkmjhaljplaaGreat
open Go.RowKit
set_option maxRecDepth 100000 in
set_option maxHeartbeats 1600000 in
theorem implLogF_any (ss : List Stp) (n : Int) (A : Option Addr) (c : Nat) (w : World) (hm : ss.length ≤ maxLen) (h : RdP w w.heap.size A ss) :
    Calls Tryz.prog 24 #[.slice A ss.length c, .int .i64 n] w fun e w' => e = .returned (.int .i64 (logF ss n)) ∧ Below w.heap.size w w' := by
  unfold maxLen at hm
  by_cases h1 : 1 ≤ n ∧ n ≤ 4
  · by_cases h2 : ss.length ≤ 32
    · have HF := hide (fun h3 => logF_bad (ss := ss) h1 h2 h3)
      have HG := hide (fun h3 h4 => logF_few (ss := ss) h1 h2 h3 h4)
      have HH := hide (fun h3 h4 => logF_many (ss := ss) h1 h2 h3 h4)
      have TE : ss.take ss.length = ss := List.take_length
      go_enter Tryz.func24, Tryz.ntmps24
      go_wp2_with fail
      refine (allWithin_one _ _ _ _ _ _ (by simp [go_sem]) h1).mono ?_
      rintro e w' ⟨rfl, rfl⟩
      have hV := Bk.new (w.alloc (.cells #[.int .i64 n] 2)) #[.int .i64 0, .int .i64 0, .int .i64 0, .int .i64 0] 93
      rw [World.size_alloc] at hV
      go_wp2_with fail
      go_loopw [18] (fun i wr => ∃ k : Nat, k ≤ ss.length ∧ i = .int .i64 k ∧ Bk wr (w.heap.size + 1) (cntA (ss.take k)) 93 ∧ Below w.heap.size w wr ∧ Hid (logG n ss = logG n (ss.drop k))) (fun i _ => ss.length - (intOf i).toNat)
      case atStart => exact ⟨0, Nat.zero_le _, rfl, hV, ((Below.refl _ _).alloc (Nat.le_refl _) _).alloc (by simp) _, hide rfl⟩
      case round =>
        obtain ⟨k, hk, rfl, hB, hb, HR⟩ := hrel
        by_cases hlt : k < ss.length
        · obtain ⟨b, off, rfl, hbb, hc0, hc1, hc2, hc3⟩ := (h.below hb).get hlt
          have IE := hide (fun W => implEvF_any ss[k].e.k ss[k].e.a ss[k].e.v W)
          by_cases hcr : 0 ≤ ss[k].c ∧ ss[k].c ≤ n - 1
          · obtain ⟨i, hi⟩ := Int.eq_ofNat_of_zero_le hcr.1
            have hi4 : i < 4 := by omega
            have HS := hide (cntA_set (ss.take k) ss[k] i hi hi4)
            rw [← List.take_succ_eq_append_getElem hlt] at HS
            have HI := hide (cntA_get (ss.take k) i hi4)
            have hle8 : cntL (ss.take k) i ≤ 32 := Nat.le_trans (cntL_le _ _) (by rw [List.length_take]; omega)
            have hcr' : 0 ≤ (i : Int) ∧ (i : Int) ≤ n - 1 := by rw [← hi]; exact hcr
            by_cases h0 : evF ss[k].e = 0
            · have HN := hide (logG_next hlt hcr h0)
              rw [show evF ⟨ss[k].e.k, ss[k].e.a, ss[k].e.v⟩ = 0 from h0] at IE
              rw [hi] at hc0
              clear h0 hcr hi
              obtain ⟨q, hq⟩ : ∃ q, q = cntL (ss.take k) i := ⟨_, rfl⟩
              rw [← hq] at HS HI hle8
              clear hq
              have hz := hB.lt
              go_wp2_with fail
              refine (allWithin_one _ _ _ _ _ _ (by simp [go_sem]) hcr').mono ?_
              rintro e w2 ⟨rfl, rfl⟩
              go_wp2_with fail
              refine (IE.out _).mono ?_
              rintro e w2 ⟨rfl, hb2⟩
              have hB2 := ((hB.alloc _).alloc _).kept hb2
              have hb3 := ((hb.alloc hb.size _).alloc (by simp; have := hb.size; omega) _).trans (hb2.mono (by simp; have := hb.size; omega))
              have hQ := ((Bk.new wr #[.int .i64 i, .int .i64 ss[k].e.k, .int .i64 ss[k].e.a, .int .i64 ss[k].e.v] 66).alloc (.cells #[.int .i64 i] 2)).kept hb2
              have q0 : w2.cell? ⟨wr.heap.size, 0, none⟩ = some (.int .i64 i) := by rw [hQ.cell 0]; rfl
              have q1 : w2.cell? ⟨w.heap.size + 1, i, none⟩ = some (.int .i64 q) := by rw [hB2.cell i]; exact HI.out
              have f1 := hB2.frozen i
              have hB3 := hB2.set_ i (.int .i64 ((q : Int) + 1))
              rw [HS.out] at hB3
              have HB := hide hB3
              clear hQ hB2 hB3 hb2 hB
              go_wp2
              go_roundw
              case rel => exact ⟨k + 1, by omega, by go_num, HB.out, hb3.setCell (by simp) _, hide (HR.out.trans HN.out)⟩
              case measure => simp [intOf]; omega
            · have HN := hide (logG_ev hlt hcr h0)
              obtain ⟨F, hF⟩ : ∃ F, F = evF ss[k].e := ⟨_, rfl⟩
              rw [show evF ⟨ss[k].e.k, ss[k].e.a, ss[k].e.v⟩ = F from hF.symm] at IE
              rw [← hF] at HN h0
              rw [hi] at hc0
              have f0 : (F != 0) = true := bne_iff_ne.2 h0
              have f1 : (F == 0) = false := beq_eq_false_iff_ne.2 h0
              have HE := hide (show logF ss n = F by rw [HF.out (by rw [HR.out, HN.out]; exact h0), HR.out, HN.out])
              clear h0 hcr hi hF HS HI
              go_wp2_with fail
              refine (allWithin_one _ _ _ _ _ _ (by simp [go_sem]) hcr').mono ?_
              rintro e w2 ⟨rfl, rfl⟩
              go_wp2_with fail
              refine (IE.out _).mono ?_
              rintro e w2 ⟨rfl, hb2⟩
              have hb3 := ((hb.alloc hb.size _).alloc (by simp; have := hb.size; omega) _).trans (hb2.mono (by simp; have := hb.size; omega))
              clear hb2 hB
              go_wp2
              go_ret
              exact ⟨ret_int HE.out.symm, hb3⟩
          · have HN := hide (logG_core hlt hcr)
            have hcr' : ss[k].c < 0 ∨ n - 1 < ss[k].c := by omega
            have HE := hide (show logF ss n = 3 by rw [HF.out (by rw [HR.out, HN.out]; decide), HR.out, HN.out])
            clear hcr IE
            go_wp2_with fail
            refine (allWithin_not _ _ _ _ _ _ (by simp [go_sem]) hcr').mono ?_
            rintro e w2 ⟨rfl, rfl⟩
            have hb3 := (hb.alloc hb.size (.cells #[.int .i64 ss[k].c, .int .i64 ss[k].e.k, .int .i64 ss[k].e.a, .int .i64 ss[k].e.v] 66)).alloc (by simp; have := hb.size; omega) (.cells #[.int .i64 ss[k].c] 2)
            clear hB
            go_wp2
            go_ret
            exact ⟨ret_int HE.out.symm, hb3⟩
        · have HN := hide (show logG n ss = 0 by rw [HR.out, logG_end hlt])
          obtain rfl : k = ss.length := by omega
          rw [TE] at hB
          have hR := cntI_rd hB
          by_cases h8 : fewL ss
          · have HE := hide (HG.out HN.out h8)
            have A8 := hide (fun W hR => allWithin_all (cntI ss) (some ⟨w.heap.size + 1, 0, none⟩) 4 0 8 W (by simp [cntI]) hR ((cntI_few ss).2 h8))
            clear h8 hB
            go_wp2_with fail
            refine (A8.out _ hR).mono ?_
            rintro e w2 ⟨rfl, rfl⟩
            go_wp2
            go_ret
            exact ⟨ret_int HE.out.symm, hb⟩
          · have HE := hide (HH.out HN.out h8)
            have A8 := hide (fun W hR => allWithin_some (cntI ss) (some ⟨w.heap.size + 1, 0, none⟩) 4 0 8 W (by simp [cntI]) hR (fun hh => h8 ((cntI_few ss).1 hh)))
            clear h8 hB
            go_wp2_with fail
            refine (A8.out _ hR).mono ?_
            rintro e w2 ⟨rfl, rfl⟩
            go_wp2
            go_ret
            exact ⟨ret_int HE.out.symm, hb⟩
    · rw [logF_long h1 h2]
      have h2' : 32 < ss.length := by omega
      clear h2
      go_enter Tryz.func24, Tryz.ntmps24
      go_wp2_with fail
      refine (allWithin_one _ _ _ _ _ _ (by simp [go_sem]) h1).mono ?_
      rintro e w' ⟨rfl, rfl⟩
      go_wp2
      go_ret
      exact ⟨rfl, by go_grown⟩
  · rw [logF_cores h1]
    have h1' : n < 1 ∨ 4 < n := by omega
    clear h1
    go_enter Tryz.func24, Tryz.ntmps24
    go_wp2_with fail
    refine (allWithin_not _ _ _ _ _ _ (by simp [go_sem]) h1').mono ?_
    rintro e w' ⟨rfl, rfl⟩
    go_wp2
    go_ret
    exact ⟨rfl, by go_grown⟩
end Go.Proofs.YtnnfkmjhaljplaaGreat
namespace Go.Proofs.YtnnfkmjhaljplaaGreat
open Go.RowKit
/-- The counts of the cores, as the model keeps them. -/
def cntR (N : Nat) (ss : List Stp) : List Value := (List.range N).map fun j : Nat => Value.int .i64 (cntL ss (j : Int) : Nat)
theorem cntR_get (N : Nat) (ss : List Stp) (i : Nat) (h : i < N) : (cntR N ss)[i]? = some (.int .i64 (cntL ss (i : Int) : Nat)) := by simp [cntR, h]
theorem cntR_nil (N : Nat) : cntR N [] = List.replicate N (Value.int .i64 0) := by
  apply List.ext_getElem
  · simp [cntR]
  · intro i h1 h2
    simp [cntR, cntL]
theorem cntR_set (N : Nat) (ss : List Stp) (s : Stp) (i : Nat) (hi : s.c = (i : Int)) : (cntR N ss).set i (.int .i64 ((cntL ss (i : Int) : Nat) + 1 : Int)) = cntR N (ss ++ [s]) := by
  apply List.ext_getElem
  · simp [cntR]
  · intro j h1 h2
    by_cases hij : i = j
    · subst hij
      rw [List.getElem_set_self]
      simp [cntR, cntL_hit ss s i hi]
    · rw [List.getElem_set_ne hij]
      simp [cntR, cntL_miss ss s j (by omega)]
set_option maxRecDepth 100000 in
set_option maxHeartbeats 1600000 in
theorem specLogF_any (ss : List Stp) (n : Int) (A : Option Addr) (c : Nat) (w : World) (hm : ss.length ≤ maxLen) (h : RdP w w.heap.size A ss) :
    Calls Tryz.prog 33 #[.slice A ss.length c, .int .i64 n] w fun e w' => e = .returned (.int .i64 (logF ss n)) ∧ Below w.heap.size w w' := by
  unfold maxLen at hm
  by_cases h1 : 1 ≤ n ∧ n ≤ 4
  · by_cases h2 : ss.length ≤ 32
    · obtain ⟨N, rfl⟩ := Int.eq_ofNat_of_zero_le (show 0 ≤ n by omega)
      have HF := hide (fun h3 => logF_bad (ss := ss) h1 h2 h3)
      have HG := hide (fun h3 h4 => logF_few (ss := ss) h1 h2 h3 h4)
      have HH := hide (fun h3 h4 => logF_many (ss := ss) h1 h2 h3 h4)
      have TE : ss.take ss.length = ss := List.take_length
      have hN4 : N ≤ 4 := by omega
      obtain ⟨i0, hi, hz0, hz1, hz2⟩ := info_parts info_i64
      have MD : (madeCells (Value.int .i64 0).cells (N * 1)).toList = cntR N [] := by rw [cntR_nil, made_i64]
      go_enter Tryz.func33, Tryz.ntmps33
      go_wp2_with fail
      refine (l1In_yes _ _ _ _ h1).mono ?_
      rintro e w' ⟨rfl, rfl⟩
      go_wp2_with (at_make; refine wpList_make_full _ rfl _ _ 29 rfl w.heap.size 2 i0 (.int .i64 0) 1 Tryz.underlying29 hi hz0 hz1 .i64 .i64 _ _ N rfl rfl rfl rfl (by rw [hz2]; omega) (by unfold maxLen; omega) (Nat.le_refl _) ?_; intro w1 hown hg)
      rw [MD] at hown
      have hb1 : Below w.heap.size w w1 := (Below.refl _ _).grown hg (Nat.le_refl _) (by simp)
      clear hg MD
      go_loopw [19] (fun i wr => ∃ k : Nat, k ≤ ss.length ∧ i = .int .i64 k ∧ wr.ownsRow w.heap.size 2 1 (.slice (some ⟨w.heap.size, 0, none⟩) N N) N (cntR N (ss.take k)) ∧ Below w.heap.size w wr ∧ Hid (logG N ss = logG N (ss.drop k))) (fun i _ => ss.length - (intOf i).toNat)
      case atStart => exact ⟨0, Nat.zero_le _, rfl, hown, hb1, hide rfl⟩
      case round =>
        obtain ⟨k, hk, rfl, ho, hb, HR⟩ := hrel
        by_cases hlt : k < ss.length
        · obtain ⟨b, off, rfl, hbb, hc0, hc1, hc2, hc3⟩ := (h.below hb).get hlt
          have IE := hide (fun W => specEvF_any ss[k].e.k ss[k].e.a ss[k].e.v W)
          by_cases hcr : 0 ≤ ss[k].c ∧ ss[k].c ≤ (N : Int) - 1
          · obtain ⟨i, hi⟩ := Int.eq_ofNat_of_zero_le hcr.1
            have hiN : i < N := by omega
            have HS := hide (cntR_set N (ss.take k) ss[k] i hi)
            rw [← List.take_succ_eq_append_getElem hlt] at HS
            have HI := hide (cntR_get N (ss.take k) i hiN)
            have hle8 : cntL (ss.take k) i ≤ 32 := Nat.le_trans (cntL_le _ _) (by rw [List.length_take]; omega)
            have hcr' : 0 ≤ (i : Int) ∧ (i : Int) ≤ (N : Int) - 1 := by rw [← hi]; exact hcr
            by_cases h0 : evF ss[k].e = 0
            · have HN := hide (logG_next hlt hcr h0)
              rw [show evF ⟨ss[k].e.k, ss[k].e.a, ss[k].e.v⟩ = 0 from h0] at IE
              rw [hi] at hc0
              clear h0 hcr hi
              obtain ⟨q, hq⟩ : ∃ q, q = cntL (ss.take k) i := ⟨_, rfl⟩
              rw [← hq] at HS HI hle8
              clear hq
              go_wp2_with fail
              refine (l1In_yes _ _ _ _ hcr').mono ?_
              rintro e w2 ⟨rfl, rfl⟩
              go_wp2_with fail
              refine (IE.out _).mono ?_
              rintro e w2 ⟨rfl, hb2⟩
              have ho2 := own_below ho hb2 (Nat.le_refl _)
              have hb3 := hb.trans (hb2.mono hb.size)
              have hd0 := (hb2.cell (block_lt_of_cell hc0)).trans hc0
              have q1 : w2.cell? ⟨w.heap.size, i, none⟩ = some (.int .i64 q) := by rw [ho2.cellAt i (by omega)]; exact HI.out
              have f1 := ho2.frozenAt i
              have hB3 := (ho2.stored i (.int .i64 ((q : Int) + 1))).1
              rw [HS.out] at hB3
              have HB := hide hB3
              clear hB3 hb2 ho2 ho
              go_wp2
              go_roundw
              case rel => exact ⟨k + 1, by omega, by go_num, HB.out, hb3.setCell (by simp) _, hide (HR.out.trans HN.out)⟩
              case measure => simp [intOf]; omega
            · have HN := hide (logG_ev hlt hcr h0)
              obtain ⟨F, hF⟩ : ∃ F, F = evF ss[k].e := ⟨_, rfl⟩
              rw [show evF ⟨ss[k].e.k, ss[k].e.a, ss[k].e.v⟩ = F from hF.symm] at IE
              rw [← hF] at HN h0
              rw [hi] at hc0
              have f0 : (F != 0) = true := bne_iff_ne.2 h0
              have f1 : (F == 0) = false := beq_eq_false_iff_ne.2 h0
              have HE := hide (show logF ss N = F by rw [HF.out (by rw [HR.out, HN.out]; exact h0), HR.out, HN.out])
              clear h0 hcr hi hF HS HI
              go_wp2_with fail
              refine (l1In_yes _ _ _ _ hcr').mono ?_
              rintro e w2 ⟨rfl, rfl⟩
              go_wp2_with fail
              refine (IE.out _).mono ?_
              rintro e w2 ⟨rfl, hb2⟩
              have hb3 := hb.trans (hb2.mono hb.size)
              clear hb2 ho
              go_wp2
              go_ret
              exact ⟨ret_int HE.out.symm, hb3⟩
          · have HN := hide (logG_core hlt hcr)
            have hcr' : ss[k].c < 0 ∨ (N : Int) - 1 < ss[k].c := by omega
            have HE := hide (show logF ss N = 3 by rw [HF.out (by rw [HR.out, HN.out]; decide), HR.out, HN.out])
            clear hcr IE
            go_wp2_with fail
            refine (l1In_no _ _ _ _ hcr').mono ?_
            rintro e w2 ⟨rfl, rfl⟩
            clear ho
            go_wp2
            go_ret
            exact ⟨ret_int HE.out.symm, hb⟩
        · have HN := hide (show logG N ss = 0 by rw [HR.out, logG_end hlt])
          obtain rfl : k = ss.length := by omega
          rw [TE] at ho
          have hall := logG_all HN.out
          have HC := hide (fun (j : Int) (hj : (N : Int) - 1 < j) => cntL_none (ss := ss) (j := j) fun s hs => by have := (hall s hs).1; omega)
          have HLe := hide (fun j : Int => Nat.le_trans (cntL_le ss j) h2)
          have hg : ∀ i, i < N → wr.cell? ⟨w.heap.size, i, none⟩ = some (.int .i64 (cntL ss (i : Int) : Nat)) := fun i hi => by
            rw [ho.cellAt i (by omega)]
            exact cntR_get N ss i hi
          have HGet := hide hg
          clear hall hg ho
          go_wp2
          go_loopw [53] (fun i w2 => ∃ k : Nat, k ≤ N ∧ i = .int .i64 k ∧ wr = w2 ∧ Hid (∀ j : Nat, j < k → cntL ss (j : Int) ≤ 8)) (fun i _ => N - (intOf i).toNat)
          case atStart => exact ⟨0, Nat.zero_le _, rfl, rfl, hide fun j hj => by omega⟩
          case round =>
            obtain ⟨k, hk, rfl, rfl, HK⟩ := hrel
            by_cases hlt : k < N
            · have hc := HGet.out k hlt
              have hL := HLe.out (k : Int)
              by_cases h8 : cntL ss (k : Int) ≤ 8
              · have HK2 := hide (show ∀ j : Nat, j < k + 1 → cntL ss (j : Int) ≤ 8 from fun j hj => by
                  by_cases hh : j = k
                  · subst hh; exact h8
                  · exact HK.out j (by omega))
                obtain ⟨q, hq⟩ : ∃ q, q = cntL ss (k : Int) := ⟨_, rfl⟩
                rw [← hq] at hc hL h8
                clear hq
                go_wp2
                go_roundw
                case rel => exact ⟨k + 1, by omega, by go_num, by first | rfl | trivial, HK2⟩
                case measure => simp [intOf]; omega
              · have HE := hide (HH.out HN.out (fun hh => h8 (few_at hh (by omega) (by omega))))
                obtain ⟨q, hq⟩ : ∃ q, q = cntL ss (k : Int) := ⟨_, rfl⟩
                rw [← hq] at hc hL h8
                clear hq
                go_wp2
                go_ret
                exact ⟨ret_int HE.out.symm, hb⟩
            · have HE := hide (HG.out HN.out (by
                have key : ∀ j : Nat, j < 4 → cntL ss (j : Int) ≤ 8 := fun j hj => by
                  by_cases hjN : j < N
                  · exact HK.out j (by omega)
                  · rw [HC.out (j : Int) (by omega)]; omega
                exact ⟨key 0 (by omega), key 1 (by omega), key 2 (by omega), key 3 (by omega)⟩))
              go_wp2
              go_ret
              exact ⟨ret_int HE.out.symm, hb⟩
    · rw [logF_long h1 h2]
      have h2' : 32 < ss.length := by omega
      clear h2
      go_enter Tryz.func33, Tryz.ntmps33
      go_wp2_with fail
      refine (l1In_yes _ _ _ _ h1).mono ?_
      rintro e w' ⟨rfl, rfl⟩
      go_wp2
      go_ret
      exact ⟨rfl, Below.refl _ _⟩
  · rw [logF_cores h1]
    have h1' : n < 1 ∨ 4 < n := by omega
    clear h1
    go_enter Tryz.func33, Tryz.ntmps33
    go_wp2_with fail
    refine (l1In_no _ _ _ _ h1').mono ?_
    rintro e w' ⟨rfl, rfl⟩
    go_wp2
    go_ret
    exact ⟨rfl, Below.refl _ _⟩
end Go.Proofs.YtnnfkmjhaljplaaGreat
namespace Go.Proofs.YtnnfkmjhaljplaaGreat
open Go.RowKit
/-- Numbers in a row of the call's own, from block base on; all that was there in W is as it was. -/
structure OwnI (W : World) (base : Nat) (xs : List Int) (v : Value) (w : World) : Prop where
  row : w.ownsRow base 2 1 v xs.length (xs.map (Value.int .i64))
  old : Below W.heap.size W w
  lo : W.heap.size ≤ base
section
variable {W w w' : World} {base : Nat} {xs : List Int} {v v' : Value} {x : Int}
theorem OwnI.below (h : OwnI W base xs v w) (hb : Below w.heap.size w w') : OwnI W base xs v w' := ⟨own_below h.row hb (Nat.le_refl _), h.old.trans (hb.mono h.old.size), h.lo⟩
theorem OwnI.alloc (h : OwnI W base xs v w) (o : Obj) : OwnI W base xs v (w.alloc o) := h.below ((Below.refl _ _).alloc (Nat.le_refl _) _)
theorem OwnI.drew (h : OwnI W base xs v w) : OwnI W base xs v w.drew := h.below (Below.refl _ _).drew
theorem OwnI.more (h : OwnI W base xs v w) (ho : w'.ownsRow base 2 1 v' (xs.length + [x].length) (xs.map (Value.int .i64) ++ [x].map (Value.int .i64))) (hg : w.grownBy w' v.ownBlock) : OwnI W base (xs ++ [x]) v' w' :=
  ⟨by rw [List.length_append, List.map_append]; exact ho, h.old.trans (grown_below h.row hg h.old.size h.lo), h.lo⟩
theorem OwnI.shape (h : OwnI W base xs v w) : ∃ A c, v = .slice A xs.length c := own_shape h.row
end
theorem Rd.one_new (w : World) (x : Int) (T : TypeId) : Rd .i64 (w.alloc (.cells #[.int .i64 x] T)) (w.heap.size + 1) (some ⟨w.heap.size, 0, none⟩) [x] := fun _ =>
  ⟨w.heap.size, 0, rfl, Nat.lt_succ_self _, fun i hi => by
    rw [Nat.zero_add, (Bk.new w #[.int .i64 x] T).cell i]
    simp only [List.map_cons, List.map_nil, List.getElem?_toArray]
    exact List.getElem?_eq_getElem hi⟩
/-- What PicksOf tells. -/
def PkPost (ss : List Stp) (n : Int) (w : World) (e : Ending) (w' : World) : Prop :=
  ∃ A c, e = .returned (.agg #[.int .i64 (logF ss n), .slice A (pkL ss n).length c]) ∧ w'.ownsRow w.heap.size 2 1 (.slice A (pkL ss n).length c) (pkL ss n).length ((pkL ss n).map (Value.int .i64)) ∧ Below w.heap.size w w'
set_option maxRecDepth 100000 in
set_option maxHeartbeats 1600000 in
theorem implPk_any (ss : List Stp) (n : Int) (A : Option Addr) (c : Nat) (w : World) (hm : ss.length ≤ maxLen) (h : RdP w w.heap.size A ss) :
    Calls Tryz.prog 14 #[.slice A ss.length c, .int .i64 n] w (PkPost ss n w) := by
  unfold PkPost
  obtain ⟨W, hW⟩ : ∃ W, W = w.alloc (Obj.cells #[Value.int .i64 0, .slice none 0 0] 49) := ⟨_, rfl⟩
  have HW := hide hW
  have hR : RdP W W.heap.size A ss := by subst hW; exact (h.alloc (Nat.le_refl _) _).lt
  clear hW h
  have LF := hide (implLogF_any ss n A c W hm hR)
  by_cases h0 : logF ss n = 0
  · rw [pkL_ok h0]
    rw [h0] at LF ⊢
    obtain ⟨hn, hl, _, _⟩ := logF_zero h0
    have TE : ss.take ss.length = ss := List.take_length
    obtain ⟨i0, hi, hz0, hz1, hz2⟩ := info_parts info_i64
    clear h0
    go_enter Tryz.func14, Tryz.ntmps14
    go_wp2_with fail
    rw [← HW.out]
    refine LF.out.mono ?_
    rintro e w1 ⟨rfl, b1⟩
    have z1 := b1.size
    clear LF
    have hO : OwnI W W.heap.size [] (.slice none 0 0) w1 := ⟨World.ownsRow_nil _ _ _ _, b1, Nat.le_refl _⟩
    go_wp2_with fail
    go_loopw [6, 18] (fun v i wr => ∃ (k : Nat) (xs : List Int), k ≤ ss.length ∧ i = .int .i64 k ∧ OwnI W W.heap.size xs v wr ∧ Hid (xs = (ss.take k).map (·.c))) (fun _ i _ => ss.length - (intOf i).toNat)
    case atStart => exact ⟨0, [], Nat.zero_le _, rfl, hO, hide rfl⟩
    case round =>
      obtain ⟨k, xs, hk, rfl, ho, HX⟩ := hrel
      by_cases hlt : k < ss.length
      · obtain ⟨b, off, rfl, hbb, hc0, hc1, hc2, hc3⟩ := (hR.below ho.old).get hlt
        obtain ⟨D, d, rfl⟩ := ho.shape
        have hkl : xs.length ≤ 32 := by rw [HX.out, List.length_map, List.length_take]; omega
        have HT := hide (show xs ++ [ss[k].c] = (ss.take (k + 1)).map (·.c) by rw [HX.out, List.take_succ_eq_append_getElem hlt, List.map_append]; rfl)
        have hoA := ho.alloc (Obj.cells #[.int .i64 ss[k].c, .int .i64 ss[k].e.k, .int .i64 ss[k].e.a, .int .i64 ss[k].e.v] 66)
        have hz := ho.old.size
        obtain ⟨wv, hwv⟩ : ∃ wv, wv = wr.alloc (Obj.cells #[.int .i64 ss[k].c, .int .i64 ss[k].e.k, .int .i64 ss[k].e.a, .int .i64 ss[k].e.v] 66) := ⟨_, rfl⟩
        rw [← hwv] at hoA
        have hBl := Rd.one_new wv ss[k].c 2
        have ho1 := hoA.alloc (Obj.cells #[.int .i64 ss[k].c] 2)
        have hzv : wv.heap.size = wr.heap.size + 1 := by rw [hwv]; simp
        rw [hzv] at hBl
        rw [hwv] at hBl ho1
        clear hoA hwv hzv
        go_wp2_with (at_builtin; refine wpList_append_rd _ rfl (.tmp 22) (.tmp 25) 29 rfl W.heap.size 2 i0 (.int .i64 0) 8 Tryz.underlying29 hi hz0 hz1 hz2 rfl .i64 _ _ _ rfl ho1.row (some ⟨wr.heap.size + 1, 0, none⟩) [ss[k].c] 1 _ rfl hBl (by unfold maxLen; simp only [List.length_cons, List.length_nil]; omega) (by simp only [List.length_cons, List.length_nil]; omega) (by simp; omega) ?_; intro v5 w5 o5 g5 hat5; have ho5 := ho1.more o5 g5; clear o5 g5 hat5 ho1 hBl)
        go_roundw
        case rel => exact ⟨k + 1, _, by omega, by go_num, ho5, HT⟩
        case measure => simp [intOf]; omega
      · obtain rfl : k = ss.length := by omega
        rw [TE] at HX
        obtain ⟨D, d, rfl⟩ := ho.shape
        have hb := ho.old
        have hrow := ho.row
        have q0 := W_cell HW.out hb 0
        have q1 := W_cell HW.out hb 1
        have f0 := W_frozen HW.out hb 0
        have f1 := W_frozen HW.out hb 1
        simp at q0 q1
        have O1 := hide (W_set HW.out (W_set HW.out hrow 0 (.int .i64 0)) 1 (.slice D xs.length d))
        clear hrow ho
        go_wp2
        refine bodyPost_ret (v := .agg #[.int .i64 0, .slice D xs.length d]) (by simp [results, Tryz.results14, go_sem, q0, q1]) rfl ?_
        have e := HX.out
        subst e
        exact ⟨D, d, rfl, W_own HW.out O1.out, ((W_below HW.out hb).setCell (Nat.le_refl _) _).setCell (Nat.le_refl _) _⟩
  · rw [pkL_bad h0]
    obtain ⟨F, hF⟩ : ∃ F, F = logF ss n := ⟨_, rfl⟩
    rw [← hF] at LF h0 ⊢
    have g0 : (F != 0) = true := bne_iff_ne.2 h0
    have g1 : (F == 0) = false := beq_eq_false_iff_ne.2 h0
    clear hF h0
    go_enter Tryz.func14, Tryz.ntmps14
    go_wp2_with fail
    rw [← HW.out]
    refine LF.out.mono ?_
    rintro e w1 ⟨rfl, hb⟩
    have q0 := W_cell HW.out hb 0
    have q1 := W_cell HW.out hb 1
    have f0 := W_frozen HW.out hb 0
    have f1 := W_frozen HW.out hb 1
    simp at q0 q1
    go_wp2
    refine bodyPost_ret (v := .agg #[.int .i64 F, .slice none 0 0]) (by simp [results, Tryz.results14, go_sem, q0, q1]) rfl ?_
    exact ⟨none, 0, rfl, World.ownsRow_nil _ _ _ _, ((W_below HW.out hb).setCell (Nat.le_refl _) _).setCell (Nat.le_refl _) _⟩
end Go.Proofs.YtnnfkmjhaljplaaGreat
