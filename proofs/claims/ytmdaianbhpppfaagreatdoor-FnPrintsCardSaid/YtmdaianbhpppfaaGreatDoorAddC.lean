/- The contract of the program's addCore. -/
import Derived.Test.YtmdaianbhpppfaaGreatDoorGCut
import Derived.Test.YtmdaianbhpppfaaGreatDoorStrs
import Derived.Test.YtmdaianbhpppfaaGreatDoorGApp
import Derived.Test.YtmdaianbhpppfaaGreatDoorGTrS
import Derived.Test.YtmdaianbhpppfaaGreatDoorGTxA
namespace Go.Proofs.YtmdaianbhpppfaaGreatDoor
open Go.RowKit

theorem cell1_new (w : World) (x : Value) (T : TypeId) : ∀ j u, [x][j]? = some u → (w.alloc (.cells #[x] T)).cell? ((⟨w.heap.size, 0, none⟩ : Addr).add j) = some u := by
  intro j u hj
  have hj0 : j = 0 := by
    rcases Nat.eq_zero_or_pos j with a | a
    · exact a
    · rw [List.getElem?_eq_none (by simp only [List.length_cons, List.length_nil]; omega)] at hj; exact absurd hj (by simp)
  subst hj0
  rw [Go.WideShapes.add_plain, World.cell?_alloc_at (w := w) _ T w.heap.size (0 + 0) rfl]
  simpa using hj
theorem one_cell1 {x : Value} (h : x.oneCell' = true) : ∀ u ∈ [x], u.oneCell' = true := fun u hu => by simp only [List.mem_singleton] at hu; rw [hu]; exact h

theorem cell3_new (w : World) (x y z : Value) (T : TypeId) : ∀ j u, [x, y, z][j]? = some u → (w.alloc (.cells #[x, y, z] T)).cell? ((⟨w.heap.size, 0, none⟩ : Addr).add j) = some u := by
  intro j u hj
  rw [Go.WideShapes.add_plain, Nat.zero_add, (Bk.new w #[x, y, z] T).cell j]
  simpa using hj
theorem one_cell3 (k : IntKind) (x y z : Int) : ∀ u ∈ [Value.int k x, .int k y, .int k z], u.oneCell' = true := by
  intro u hu
  simp at hu
  rcases hu with rfl | rfl | rfl <;> rfl

/-- What a line adds, as the program tells it; base: where the trace's own memory begins. -/
def AddPost (base : Nat) (w : World) (M : Option (List (List Ev))) (e : Ending) (w' : World) : Prop :=
  (∃ t A c us, M = some t ∧ e = .returned (.tuple #[.slice A t.length c, .bool true]) ∧ OwnT w' base (.slice A t.length c) t us ∧ Below base w w') ∨
  (M = none ∧ e = .returned (.tuple #[.slice none 0 0, .bool false]) ∧ Below base w w')
def coreM (t : List (List Ev)) (wd : List (List Int)) : Option (List (List Ev)) := if wd.length = 1 ∧ numL 10 6 (wd.getD 0 []) = t.length then some (t ++ [[]]) else none

set_option maxRecDepth 100000 in
set_option maxHeartbeats 1600000 in
theorem addCore_any (base : Nat) (t : List (List Ev)) (A A2 : Option Addr) (c c2 : Nat) (us : List Value) (wd : List (List Int)) (w : World) (hb : base ≤ w.heap.size) (ht : t.length ≤ 4000) (ho : OwnT w base (.slice A t.length c) t us) (hr : RdS w w.heap.size A2 wd) (hw : wd.length ≤ 4000) (h8 : ∀ x ∈ wd, B8 x ∧ x.length ≤ 4000) :
    Calls Tryz.prog 74 #[.slice A t.length c, .slice A2 wd.length c2] w (AddPost base w (coreM t wd)) := by
  by_cases h1 : wd.length = 1
  · obtain ⟨x, rfl⟩ := List.length_eq_one_iff.1 h1
    obtain ⟨b, off, rfl, hb2, hc0⟩ := hr.get (i := 0) (by simp)
    rw [Nat.add_zero] at hc0
    simp only [List.getElem_cons_zero] at hc0
    have hx := h8 x (List.mem_cons_self ..)
    have NO := hide (fun w => NumberOf_any x w hx.1 (by unfold maxLen; omega))
    obtain ⟨n1, n2⟩ := numL_top (base := 10) (most := 6) (l := x) (by omega) (by omega) (by omega)
    have hM : coreM t [x] = if numL 10 6 x = t.length then some (t ++ [[]]) else none := by
      unfold coreM
      simp
    rw [hM]
    obtain ⟨n, hn⟩ : ∃ n, n = numL 10 6 x := ⟨_, rfl⟩
    rw [← hn] at NO n1 n2 ⊢
    clear hn hM hx h8 hr h1
    by_cases hz : n < 0
    · have e1 : inC n = 5 := by unfold inC; rw [if_pos hz]
      have e2 : inV n = 0 := by unfold inV; rw [if_pos hz]
      rw [e1, e2] at NO
      rw [if_neg (by omega)]
      clear e1 e2
      simp only [List.length_cons, List.length_nil]
      go_enter Tryz.func74, Tryz.ntmps74
      go_wp2_with fail
      refine (NO.out _).mono ?_
      rintro e w2 ⟨rfl, b2⟩
      have hbb : Below base w (w2.alloc (.cells #[.int .i64 5, .int .i64 0] 36)) := (b2.mono hb).alloc (by have := b2.size; omega) _
      clear b2
      go_wp2
      go_returns
      exact .inr ⟨rfl, rfl, hbb⟩
    · have e1 : inC n = 0 := by unfold inC; rw [if_neg hz]
      have e2 : inV n = n := by unfold inV; rw [if_neg hz]
      rw [e1, e2] at NO
      clear e1 e2
      simp only [List.length_cons, List.length_nil]
      by_cases heq : n = t.length
      · rw [if_pos heq]
        obtain ⟨j0, hj, hy0, hy1, hy2⟩ := info_parts info_events
        have q1 : (n != (t.length : Int)) = false := by rw [heq]; simp
        clear heq hz
        go_enter Tryz.func74, Tryz.ntmps74
        go_wp2_with fail
        refine (NO.out _).mono ?_
        rintro e w2 ⟨rfl, b2⟩
        have hbb : Below base w (w2.alloc (.cells #[.int .i64 0, .int .i64 n] 36)) := (b2.mono hb).alloc (by have := b2.size; omega) _
        have ho3 := (ho.below b2).alloc (.cells #[.int .i64 0, .int .i64 n] 36)
        have z3 := hbb.size
        obtain ⟨w3, hw3⟩ : ∃ w3, w3 = w2.alloc (.cells #[.int .i64 0, .int .i64 n] 36) := ⟨_, rfl⟩
        have k3 : Bk w3 w2.heap.size #[.int .i64 0, .int .i64 n] 36 := by rw [hw3]; exact Bk.new _ _ _
        have c0 := (k3.cell 0).trans (rfl : _ = some (Value.int .i64 0))
        have c1 := (k3.cell 1).trans (rfl : _ = some (Value.int .i64 n))
        clear b2 ho
        rw [← hw3] at hbb ho3 z3
        have H3 := hide hw3
        clear hw3
        go_wp2_with (first
          | (rw [← H3.out])
          | (at_builtin; refine wpList_append_own_at _ rfl (.tmp 24) (.tmp 25) 24 rfl base 55 j0 (.slice none 0 0) 1 24 Tryz.underlying24 hj hy0 hy1 hy2 rfl (by decide) _ _ _ rfl (ho3.row.alloc _) ⟨w3.heap.size, 0, none⟩ 1 1 [.slice none 0 0] rfl rfl (cell1_new _ _ _) (one_cell1 rfl) (by unfold maxLen; omega) (by omega) (by simp; omega) ?_; intro v' w4 hown' hgrow _ hat))
        have hP := (ho3.alloc (.cells #[.slice none 0 0] 55)).push (es := []) (World.ownsRow_nil _ _ _ _) (fun b hb => by simp [Value.ownBlock] at hb) hown' hgrow hat
        have hbl : Below base w w4 := (hbb.alloc (by omega) (.cells #[.slice none 0 0] 55)).trans (grown_below (ho3.row.alloc (.cells #[.slice none 0 0] 55)) hgrow (by simp; omega) (Nat.le_refl _))
        obtain ⟨D, d, hv⟩ := own_shape hown'
        rw [hv] at hP ⊢
        clear hown' hgrow hat hv
        go_wp2
        go_returns
        refine .inl ⟨t ++ [[]], D, d, us ++ [.slice none 0 0], rfl, ?_, ?_, hbl⟩
        · rw [List.length_append]; rfl
        · rw [List.length_append]; exact hP
      · rw [if_neg heq]
        have q1 : (n != (t.length : Int)) = true := bne_iff_ne.2 heq
        clear heq hz
        go_enter Tryz.func74, Tryz.ntmps74
        go_wp2_with fail
        refine (NO.out _).mono ?_
        rintro e w2 ⟨rfl, b2⟩
        have hbb : Below base w (w2.alloc (.cells #[.int .i64 0, .int .i64 n] 36)) := (b2.mono hb).alloc (by have := b2.size; omega) _
        clear b2
        go_wp2
        go_returns
        exact .inr ⟨rfl, rfl, hbb⟩
  · have q1 : ((wd.length : Int) != 1) = true := bne_iff_ne.2 (by omega)
    have hM : coreM t wd = none := by unfold coreM; rw [if_neg (fun h => h1 h.1)]
    rw [hM]
    clear hM h1
    go_enter Tryz.func74, Tryz.ntmps74
    go_wp2
    go_returns
    exact .inr ⟨rfl, rfl, Below.refl _ _⟩
end Go.Proofs.YtmdaianbhpppfaaGreatDoor
