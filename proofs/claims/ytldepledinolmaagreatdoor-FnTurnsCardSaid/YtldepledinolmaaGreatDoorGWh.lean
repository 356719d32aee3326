/- Contracts of SameSteps, in the program and in its model. Contracts of SameTraces, in the program and in its model. Contracts of the draws of chapter 4: a trace and a block; a file. Contracts of the laws' own small functions. lwTrace at two equal answers. The bent traces' contract, as the walks ask it. -/
import Derived.Test.YtldepledinolmaaGreatDoorGEv
import Derived.Test.YtldepledinolmaaGreatDoorGBase
import Derived.Test.YtldepledinolmaaGreatDoorGDrT2
import Derived.Test.YtldepledinolmaaGreatDoorFilS
import Derived.Test.YtldepledinolmaaGreatDoorGDrawT
import Derived.Test.YtldepledinolmaaGreatDoorSame
import Derived.Test.YtldepledinolmaaGreatDoorGFr
import Derived.Test.YtldepledinolmaaGreatDoorBent
namespace Go.Proofs.YtldepledinolmaaGreatDoor
open Go.RowKit

open Classical in
noncomputable def sameE (es fs : List Ev) : Bool := if es = fs then true else false
def SameTo (es fs : List Ev) (k : Nat) : Prop := ∀ i, i < k → es[i]? = fs[i]?
theorem SameTo.zero (es fs : List Ev) : SameTo es fs 0 := fun i hi => by omega
theorem SameTo.step {es fs : List Ev} {k : Nat} (h : SameTo es fs k) (hk : k < es.length) {hk' : k < fs.length} (he : es[k] = fs[k]) : SameTo es fs (k + 1) := fun i hi => by
  by_cases hik : i = k
  · subst hik
    rw [List.getElem?_eq_getElem hk, List.getElem?_eq_getElem hk', he]
  · exact h i (by omega)
theorem sameE_all {es fs : List Ev} (hl : es.length = fs.length) (h : SameTo es fs es.length) : sameE es fs = true := by
  refine if_pos ?_
  apply List.ext_getElem?
  intro i
  by_cases hi : i < es.length
  · exact h i hi
  · rw [List.getElem?_eq_none (by omega), List.getElem?_eq_none (by omega)]
theorem sameE_not {es fs : List Ev} {k : Nat} (hk : k < es.length) {hk' : k < fs.length} (he : ¬ es[k] = fs[k]) : sameE es fs = false := by
  refine if_neg ?_
  intro e
  subst e
  exact he rfl
theorem sameE_len {es fs : List Ev} (h : ¬ es.length = fs.length) : sameE es fs = false := by
  refine if_neg ?_
  intro e
  exact h (by rw [e])
theorem sameE_refl (es : List Ev) : sameE es es = true := if_pos rfl
theorem ev_ne {e f : Ev} (h : ¬ e = f) : ¬ e.k = f.k ∨ (e.k = f.k ∧ ¬ e.a = f.a) ∨ (e.k = f.k ∧ e.a = f.a ∧ ¬ e.v = f.v) := by
  obtain ⟨k, a, v⟩ := e
  obtain ⟨k', a', v'⟩ := f
  by_cases h0 : k = k'
  · by_cases h1 : a = a'
    · by_cases h2 : v = v'
      · exact absurd (by rw [h0, h1, h2]) h
      · exact .inr (.inr ⟨h0, h1, h2⟩)
    · exact .inr (.inl ⟨h0, h1⟩)
  · exact .inl h0

end Go.Proofs.YtldepledinolmaaGreatDoor
namespace Go.Proofs.YtldepledinolmaaGreatDoor
open Go.RowKit

open Classical in
noncomputable def sameT (t u : List (List Ev)) : Bool := if t = u then true else false
def SameToT (t u : List (List Ev)) (k : Nat) : Prop := ∀ i, i < k → t[i]? = u[i]?
theorem SameToT.zero (t u : List (List Ev)) : SameToT t u 0 := fun i hi => by omega
theorem SameToT.step {t u : List (List Ev)} {k : Nat} (h : SameToT t u k) (hk : k < t.length) {hk' : k < u.length} (he : t[k] = u[k]) : SameToT t u (k + 1) := fun i hi => by
  by_cases hik : i = k
  · subst hik
    rw [List.getElem?_eq_getElem hk, List.getElem?_eq_getElem hk', he]
  · exact h i (by omega)
theorem sameT_all {t u : List (List Ev)} (hl : t.length = u.length) (h : SameToT t u t.length) : sameT t u = true := by
  refine if_pos ?_
  apply List.ext_getElem?
  intro i
  by_cases hi : i < t.length
  · exact h i hi
  · rw [List.getElem?_eq_none (by omega), List.getElem?_eq_none (by omega)]
theorem sameT_not {t u : List (List Ev)} {k : Nat} (hk : k < t.length) {hk' : k < u.length} (he : ¬ t[k] = u[k]) : sameT t u = false := by
  refine if_neg ?_
  intro e
  subst e
  exact he rfl
theorem sameT_len {t u : List (List Ev)} (h : ¬ t.length = u.length) : sameT t u = false := by
  refine if_neg ?_
  intro e
  exact h (by rw [e])
theorem sameT_refl (t : List (List Ev)) : sameT t t = true := if_pos rfl

end Go.Proofs.YtldepledinolmaaGreatDoor
namespace Go.Proofs.YtldepledinolmaaGreatDoor
open Go.RowKit

/-- A trace to read, and a block. -/
def TrBPost (w : World) (e : Ending) (w' : World) : Prop := ∃ (t : List (List Ev)) (b : Int) (D : Option Addr) (d : Nat), e = .returned (.tuple #[.slice D t.length d, .int .i64 b]) ∧ 0 ≤ b ∧ b ≤ 9 ∧ t.length ≤ 5 ∧ (∀ x ∈ t, x.length ≤ 20) ∧ RdT w' w'.heap.size D t ∧ Below w.heap.size w w'

set_option maxHeartbeats 800000 in
theorem DrawEncodeTrace_any (HB : BentOk) (l : List Int) (A : Option Addr) (c : Nat) (w : World) (hl : l.length ≤ 1048576) (hR : Rd .u8 w w.heap.size A l) (b8 : B8 l) :
    Calls Tryz.prog 23 #[.slice A l.length c] w (TrBPost w) := by
  go_enter Tryz.func23, Tryz.ntmps23
  go_wp2_with fail
  refine (l1Source_any l A c w hR b8 hl).mono ?_
  rintro e w1 ⟨rfl, S1, B1⟩
  go_wp2_with fail
  refine (HB _ _ A c l w1 S1 (by omega)).mono ?_
  rintro e w2 ⟨t, D, d, rfl, ht, hall, hT, k2, hk2, S2, g2⟩
  have B2 := grown_from B1 g2 B1.size (Nat.le_refl _)
  go_wp2_with fail
  refine (l1Pick_any _ _ _ [1, 2, 3, 8, 0, 9] A c l _ _ (S2.alloc _) (by omega) (by simp) (by simp) (Bk.new _ _ _) (by have := S2.lt; omega)).mono ?_
  rintro e w3 ⟨r, rfl, hm, S3, g3⟩
  have G3 := grown_alloc g3
  have B3 := grown_from B2 G3 B2.size (Nat.le_refl _)
  have hr : 0 ≤ r ∧ r ≤ 9 := by simp at hm; omega
  clear hm
  go_wp2
  refine bodyPost_ret (v := .tuple #[.slice D t.length d, .int .i64 r]) (by simp [results, Tryz.results23, go_sem]) rfl ?_
  exact ⟨t, r, D, d, rfl, hr.1, hr.2, ht, hall, hT _ G3, B3⟩

/-- One row of a trace of the call's own: where it stands, as long as only the source goes on. -/
theorem OwnT.item {w : World} {base c : Nat} {A : Option Addr} {t : List (List Ev)} {us : List Value} (h : OwnT w base (.slice A t.length c) t us) {j g : Nat} (hj : j < t.length) (hg : g < base) :
    ∃ b a d, A = some ⟨b, 0, none⟩ ∧ t[j].length ≤ d ∧ d ≤ maxLen ∧ ∀ w2, w.grownBy w2 (some g) → w2.cell? ⟨b, j, none⟩ = some (.slice a t[j].length d) ∧ RdE w2 w2.heap.size a t[j] := by
  rcases h.row.2 with ⟨_, h0⟩ | ⟨b, cap, cur, h', _⟩
  · omega
  · simp only [Value.slice.injEq] at h'
    obtain ⟨rfl, _, rfl⟩ := h'
    obtain ⟨u, h1, h2, h3⟩ := h.rows j hj
    obtain ⟨a, d, rfl⟩ := own_shape h2
    have hcp := own_capE h2
    refine ⟨b, a, d, rfl, hcp.1, hcp.2, fun w2 G => ?_⟩
    have h' := h.kept G (fun k e => by simp at e; omega)
    refine ⟨?_, RdE.of_own (h2.kept G (own_sep fun k hk e => by have := h2.lt k hk; simp at e; omega))⟩
    rw [h'.row.cellAt j (by omega)]
    exact h1
theorem run_headE (A : Option Addr) (n k c : Nat) (l : Int) (w : World) (hl : l = k) (h : k ≤ c) : (Instr.slice 78 (.slice A n c) none (some (.int .i64 l)) none).run Tryz.prog w = .ok (.slice A k c) w := by
  subst hl
  simp [go_sem, h]
theorem run_cutE (A : Option Addr) (n k c : Nat) (l : Int) (w : World) (hl : l = k) (h : k ≤ n) : (Instr.slice 78 (.slice A n c) (some (.int .i64 l)) none none).run Tryz.prog w = .ok (.slice (cutE A k c) (n - k) (c - k)) w := by
  subst hl
  simp [go_sem, h, cutE]
theorem grw {w w' : World} {row : Option Nat} (hb : Below w.heap.size w w') : w.grownBy w' row := ⟨hb.os, hb.tape, hb.output, hb.size, fun k hk _ => hb.block k hk⟩
theorem frL_small {i : Int} {p : List Ev} (h : stF p = 0) : (frL i (packL 0 p)).length ≤ 8 + 18 * p.length := by
  have := pcsB_len i [p] (fun q hq => by simp at hq; rw [hq]; exact h)
  simpa [pcsB] using this

end Go.Proofs.YtldepledinolmaaGreatDoor
namespace Go.Proofs.YtldepledinolmaaGreatDoor
open Go.RowKit

theorem lwBig_no (l : List Int) (A : Option Addr) (c : Nat) (w : World) (hl : l.length ≤ 1048576) :
    Calls Tryz.prog 5 #[.slice A l.length c] w fun e w' => e = .returned (.bool false) ∧ w = w' := by
  go_enter Tryz.func5, Tryz.ntmps5
  go_wp2
  go_ret
  exact ⟨ret_bool (by simp; omega), rfl⟩
theorem lwBig_yes (l : List Int) (A : Option Addr) (c : Nat) (w : World) (hl : ¬ l.length ≤ 1048576) (hm : l.length ≤ maxLen) :
    Calls Tryz.prog 5 #[.slice A l.length c] w fun e w' => e = .returned (.bool true) ∧ w = w' := by
  unfold maxLen at hm
  go_enter Tryz.func5, Tryz.ntmps5
  go_wp2
  go_ret
  exact ⟨ret_bool (by simp; omega), rfl⟩

theorem lwSame_any (l m : List Int) (A A' : Option Addr) (c c' : Nat) (w : World) (h : Rd .u8 w w.heap.size A l) (h' : Rd .u8 w w.heap.size A' m) (b : B8 l) (b' : B8 m) :
    Calls Tryz.prog 16 #[.slice A l.length c, .slice A' m.length c'] w fun e w' => e = .returned (.bool (sameB l m)) ∧ w = w' := by
  have e1 := run_str (P := Tryz.prog) c 22 5 Tryz.underlying22 Tryz.underlying5 h 9 Tryz.underlying9
  have e2 := run_str (P := Tryz.prog) c' 22 5 Tryz.underlying22 Tryz.underlying5 h' 9 Tryz.underlying9
  go_enter Tryz.func16, Tryz.ntmps16
  go_wp2
  go_ret
  exact ⟨ret_bool (sameB_str b b'), rfl⟩

theorem lwBytes_same (a : Int) (l : List Int) (A A' : Option Addr) (c c' : Nat) (w : World) (h : Rd .u8 w w.heap.size A l) (h' : Rd .u8 w w.heap.size A' l) (b : B8 l) :
    Calls Tryz.prog 14 #[.agg #[.int .i64 a, .slice A l.length c], .agg #[.int .i64 a, .slice A' l.length c']] w fun e w' => e = .returned (.bool true) ∧ Below w.heap.size w w' := by
  go_enter Tryz.func14, Tryz.ntmps14
  go_wp2_with fail
  refine (lwSame_any l l A A' c c' _ ((h.alloc (Nat.le_refl _) _).alloc (by simp) _).lt ((h'.alloc (Nat.le_refl _) _).alloc (by simp) _).lt b b).mono ?_
  rintro e w1 ⟨rfl, rfl⟩
  go_wp2
  go_ret
  exact ⟨ret_bool (by unfold sameB; simp), by go_grown⟩

/-- A number below n comes back; nothing but the count of draws has turned. -/
def AtPost (n : Int) (w : World) (e : Ending) (w' : World) : Prop := ∃ (r : Int) (k : Nat), e = .returned (.int .i64 r) ∧ 0 ≤ r ∧ (r < n ∨ n ≤ 1 ∧ r = 0) ∧ w' = w.drewN k
end Go.Proofs.YtldepledinolmaaGreatDoor
namespace Go.Proofs.YtldepledinolmaaGreatDoor
open Go.RowKit

end Go.Proofs.YtldepledinolmaaGreatDoor
namespace Go.Proofs.YtldepledinolmaaGreatDoor
open Go.RowKit
theorem bentK : BentOk := fun g k A c l w hS hk => l2Bent_any g k A c l w hS hk
end Go.Proofs.YtldepledinolmaaGreatDoor
