/- Contracts of the draws of chapter 2: steps and traces with a fault, steps and traces that are the same or not, an event. -/
import Derived.Test.YtjdbakebcdkfcaaBentP
import Derived.Test.YtjdbakebcdkfcaaAppendE
namespace Go.Proofs.Ytjdbakebcdkfcaa
open Go.RowKit

/-- Events to read, in new memory or none. -/
def EvsPost (w : World) (e : Ending) (w' : World) : Prop := ∃ (es : List Ev) (D : Option Addr) (d : Nat), e = .returned (.slice D es.length d) ∧ es.length ≤ 20 ∧ RdE w' w'.heap.size D es ∧ Below w.heap.size w w'
def TrPost (w : World) (e : Ending) (w' : World) : Prop := ∃ (t : List (List Ev)) (D : Option Addr) (d : Nat), e = .returned (.slice D t.length d) ∧ t.length ≤ 5 ∧ (∀ x ∈ t, x.length ≤ 20) ∧ RdT w' w'.heap.size D t ∧ Below w.heap.size w w'

def EvPost (w : World) (e : Ending) (w' : World) : Prop := ∃ k a v : Int, e = .returned (evV k a v) ∧ Below w.heap.size w w'

set_option maxHeartbeats 800000 in
theorem DrawStepsFault_any (HB : BentOk) (l : List Int) (A : Option Addr) (c : Nat) (w : World) (hl : l.length ≤ 1048576) (hR : Rd .u8 w w.heap.size A l) (b8 : B8 l) :
    Calls Try.prog 51 #[.slice A l.length c] w (EvsPost w) := by
  go_enter Try.func51, Try.ntmps51
  go_wp2_with fail
  refine (l1Source_any l A c w hR b8 hl).mono ?_
  rintro e w1 ⟨rfl, S1, B1⟩
  go_wp2_with fail
  refine (HB _ _ A c l w1 S1 (by omega)).mono ?_
  rintro e w2 ⟨t, D, d, rfl, ht, hall, hT, k2, hk2, S2, g2⟩
  have B2 := grown_from B1 g2 B1.size (Nat.le_refl _)
  by_cases h0 : t.length = 0
  · have e0 : ((t.length : Int) == 0) = true := beq_iff_eq.2 (by omega)
    clear h0
    go_wp2
    go_ret
    exact ⟨[], none, 0, rfl, by simp, RdE.nil_, B2⟩
  · have e0 : ((t.length : Int) == 0) = false := beq_eq_false_iff_ne.2 (by omega)
    go_wp2_with fail
    refine (l1Next_any _ _ _ A c l _ S2 (by omega) (by omega) (by omega)).mono ?_
    rintro e w3 ⟨r, rfl, r0, r1, S3, g3⟩
    have hr : r < t.length := by omega
    obtain ⟨q, rfl⟩ := Int.eq_ofNat_of_zero_le r0
    have hq : q < t.length := by omega
    have B3 := grown_from B2 g3 B2.size (Nat.le_refl _)
    obtain ⟨b, off, a, c', rfl, hb, hc, hle, hcm, hE⟩ := (hT w3 g3).get hq
    have hlen := hall _ (List.getElem_mem hq)
    clear r1 hr g3
    go_wp2
    go_ret
    exact ⟨t[q], a, c', rfl, hlen, hE, B3⟩

theorem DrawPackSteps_any (HB : BentOk) (l : List Int) (A : Option Addr) (c : Nat) (w : World) (hl : l.length ≤ 1048576) (hR : Rd .u8 w w.heap.size A l) (b8 : B8 l) :
    Calls Try.prog 12 #[.slice A l.length c] w (EvsPost w) := by
  go_enter Try.func12, Try.ntmps12
  go_wp2_with fail
  refine (DrawStepsFault_any HB l A c w hl hR b8).mono ?_
  rintro e w1 ⟨es, D, d, rfl, h1, h2, h3⟩
  go_wp2
  go_ret
  exact ⟨es, D, d, rfl, h1, h2, h3⟩

theorem DrawTraceFault_any (HB : BentOk) (l : List Int) (A : Option Addr) (c : Nat) (w : World) (hl : l.length ≤ 1048576) (hR : Rd .u8 w w.heap.size A l) (b8 : B8 l) :
    Calls Try.prog 19 #[.slice A l.length c] w (TrPost w) := by
  go_enter Try.func19, Try.ntmps19
  go_wp2_with fail
  refine (l1Source_any l A c w hR b8 hl).mono ?_
  rintro e w1 ⟨rfl, S1, B1⟩
  go_wp2_with fail
  refine (HB _ _ A c l w1 S1 (by omega)).mono ?_
  rintro e w2 ⟨t, D, d, rfl, ht, hall, hT, k2, hk2, S2, g2⟩
  have B2 := grown_from B1 g2 B1.size (Nat.le_refl _)
  go_wp2
  go_ret
  exact ⟨t, D, d, rfl, ht, hall, hT _ (World.grownBy.refl _ _), B2⟩

set_option maxHeartbeats 800000 in
theorem DrawEventFault_any (l : List Int) (A : Option Addr) (c : Nat) (w : World) (hl : l.length ≤ 1048576) (hR : Rd .u8 w w.heap.size A l) (b8 : B8 l) :
    Calls Try.prog 18 #[.slice A l.length c] w (EvPost w) := by
  obtain ⟨W, hW⟩ : ∃ W, W = w.alloc (Obj.cells #[Value.int .i64 0, .int .i64 0, .int .i64 0] 39) := ⟨_, rfl⟩
  have HW := hide hW
  have kr : Bk W w.heap.size #[.int .i64 0, .int .i64 0, .int .i64 0] 39 := by rw [hW]; exact Bk.new _ _ _
  have hRW : Rd .u8 W W.heap.size A l := by rw [hW]; exact (hR.alloc (Nat.le_refl _) _).lt
  have B0 : Below w.heap.size w W := by rw [hW]; exact (Below.refl _ _).alloc (Nat.le_refl _) _
  have z0 : w.heap.size < W.heap.size := by rw [hW]; simp
  clear hW
  go_enter Try.func18, Try.ntmps18
  go_wp2_with fail
  rw [← HW.out]
  refine (l1Source_any l A c W hRW b8 hl).mono ?_
  rintro e w1 ⟨rfl, S1, B1⟩
  have kr1 := kr.kept B1
  have X1 := B0.trans (B1.mono B0.size)
  go_wp2_with fail
  refine (l2Event_any _ _ A c l w1 S1 (by omega)).mono ?_
  rintro e w2 ⟨x, rfl, hx, k2, hk2, S2, g2⟩
  have kr2 := (kr1.grown g2 (by simp; omega)).alloc (.cells #[.int .i64 x.k, .int .i64 x.a, .int .i64 x.v] 39)
  have ke := Bk.new w2 #[.int .i64 x.k, .int .i64 x.a, .int .i64 x.v] 39
  have X2 := (X1.grown g2 X1.size (fun k hk => by simp at hk; omega)).alloc (by have := X1.size; have := g2.size; omega) (.cells #[.int .i64 x.k, .int .i64 x.a, .int .i64 x.v] 39)
  have S2' := S2.alloc (.cells #[.int .i64 x.k, .int .i64 x.a, .int .i64 x.v] 39)
  have z2 : W.heap.size < w2.heap.size := S2.lt
  go_wp2_with fail
  refine (l1Next_any _ _ 6 A c l _ S2' (by omega) (by omega) (by omega)).mono ?_
  rintro e w3 ⟨s, rfl, s0, s1, S3, g3⟩
  have kr3 := kr2.grown g3 (by simp; omega)
  have ke3 := ke.grown g3 (by simp; omega)
  have X3 := X2.grown g3 X2.size (fun k hk => by simp at hk; omega)
  clear kr kr1 kr2 ke X1 X2 S1 S2 S2' B1 g2 g3 s1
  by_cases e0 : s = 0
  · subst e0
    go_wp2_with fail
    refine (l1Pick_any _ _ _ [-1, 2] A c l _ _ (S3.alloc _) (by omega) (by simp) (by simp) (Bk.new _ _ _) (by have := S3.lt; omega)).mono ?_
    rintro e w4 ⟨r, rfl, hm, S4, g4⟩
    have kr4 := (kr3.alloc (.cells #[.int .i64 (-1), .int .i64 2] 2)).grown g4 (by simp; omega)
    have ke4 := (ke3.alloc (.cells #[.int .i64 (-1), .int .i64 2] 2)).grown g4 (by simp; omega)
    have X4 := (X3.alloc X3.size (.cells #[.int .i64 (-1), .int .i64 2] 2)).grown g4 (by have := X3.size; simp; omega) (fun k hk => by simp at hk; omega)
    have X := hide X4
    clear hm S4 g4 S3 X3 X4 kr3 ke3
    have a0 : w4.cell? ⟨w2.heap.size, 0, none⟩ = some (.int .i64 x.k) := (ke4.cell 0).trans rfl
    have a1 : w4.cell? ⟨w2.heap.size, 1, none⟩ = some (.int .i64 x.a) := (ke4.cell 1).trans rfl
    have a2 : w4.cell? ⟨w2.heap.size, 2, none⟩ = some (.int .i64 x.v) := (ke4.cell 2).trans rfl
    have c0 : w4.cell? ⟨w.heap.size, 0, none⟩ = some (.int .i64 0) := (kr4.cell 0).trans rfl
    have c1 : w4.cell? ⟨w.heap.size, 1, none⟩ = some (.int .i64 0) := (kr4.cell 1).trans rfl
    have c2 : w4.cell? ⟨w.heap.size, 2, none⟩ = some (.int .i64 0) := (kr4.cell 2).trans rfl
    have fa0 := ke4.frozen 0
    have fc0 := kr4.frozen 0
    have fa1 := ke4.frozen 1
    have fc1 := kr4.frozen 1
    have fa2 := ke4.frozen 2
    have fc2 := kr4.frozen 2
    clear ke4 kr4
    go_wp2
    refine bodyPost_ret (v := evV r x.a x.v) (by simp [results, Try.results18, go_sem, c0, c1, c2]) rfl ?_
    exact ⟨r, x.a, x.v, rfl, (((X.out.setCell (by simp only; omega) _).setCell (Nat.le_refl _) _).setCell (Nat.le_refl _) _).setCell (Nat.le_refl _) _⟩
  · by_cases e1 : s = 1
    · subst e1
      clear e0
      go_wp2_with fail
      refine (l1Pick_any _ _ _ [-1, 1000000] A c l _ _ (S3.alloc _) (by omega) (by simp) (by simp) (Bk.new _ _ _) (by have := S3.lt; omega)).mono ?_
      rintro e w4 ⟨r, rfl, hm, S4, g4⟩
      have kr4 := (kr3.alloc (.cells #[.int .i64 (-1), .int .i64 1000000] 2)).grown g4 (by simp; omega)
      have ke4 := (ke3.alloc (.cells #[.int .i64 (-1), .int .i64 1000000] 2)).grown g4 (by simp; omega)
      have X4 := (X3.alloc X3.size (.cells #[.int .i64 (-1), .int .i64 1000000] 2)).grown g4 (by have := X3.size; simp; omega) (fun k hk => by simp at hk; omega)
      have X := hide X4
      clear hm S4 g4 S3 X3 X4 kr3 ke3
      have a0 : w4.cell? ⟨w2.heap.size, 0, none⟩ = some (.int .i64 x.k) := (ke4.cell 0).trans rfl
      have a1 : w4.cell? ⟨w2.heap.size, 1, none⟩ = some (.int .i64 x.a) := (ke4.cell 1).trans rfl
      have a2 : w4.cell? ⟨w2.heap.size, 2, none⟩ = some (.int .i64 x.v) := (ke4.cell 2).trans rfl
      have c0 : w4.cell? ⟨w.heap.size, 0, none⟩ = some (.int .i64 0) := (kr4.cell 0).trans rfl
      have c1 : w4.cell? ⟨w.heap.size, 1, none⟩ = some (.int .i64 0) := (kr4.cell 1).trans rfl
      have c2 : w4.cell? ⟨w.heap.size, 2, none⟩ = some (.int .i64 0) := (kr4.cell 2).trans rfl
      have fa0 := ke4.frozen 0
      have fc0 := kr4.frozen 0
      have fa1 := ke4.frozen 1
      have fc1 := kr4.frozen 1
      have fa2 := ke4.frozen 2
      have fc2 := kr4.frozen 2
      clear ke4 kr4
      go_wp2
      refine bodyPost_ret (v := evV x.k r x.v) (by simp [results, Try.results18, go_sem, c0, c1, c2]) rfl ?_
      exact ⟨x.k, r, x.v, rfl, (((X.out.setCell (by simp only; omega) _).setCell (Nat.le_refl _) _).setCell (Nat.le_refl _) _).setCell (Nat.le_refl _) _⟩
    · by_cases e2 : s = 2
      · subst e2
        clear e0 e1
        go_wp2_with fail
        refine (l1Pick_any _ _ _ [-1, 1000000] A c l _ _ (S3.alloc _) (by omega) (by simp) (by simp) (Bk.new _ _ _) (by have := S3.lt; omega)).mono ?_
        rintro e w4 ⟨r, rfl, hm, S4, g4⟩
        have kr4 := (kr3.alloc (.cells #[.int .i64 (-1), .int .i64 1000000] 2)).grown g4 (by simp; omega)
        have ke4 := (ke3.alloc (.cells #[.int .i64 (-1), .int .i64 1000000] 2)).grown g4 (by simp; omega)
        have X4 := (X3.alloc X3.size (.cells #[.int .i64 (-1), .int .i64 1000000] 2)).grown g4 (by have := X3.size; simp; omega) (fun k hk => by simp at hk; omega)
        have X := hide X4
        clear hm S4 g4 S3 X3 X4 kr3 ke3
        have a0 : w4.cell? ⟨w2.heap.size, 0, none⟩ = some (.int .i64 x.k) := (ke4.cell 0).trans rfl
        have a1 : w4.cell? ⟨w2.heap.size, 1, none⟩ = some (.int .i64 x.a) := (ke4.cell 1).trans rfl
        have a2 : w4.cell? ⟨w2.heap.size, 2, none⟩ = some (.int .i64 x.v) := (ke4.cell 2).trans rfl
        have c0 : w4.cell? ⟨w.heap.size, 0, none⟩ = some (.int .i64 0) := (kr4.cell 0).trans rfl
        have c1 : w4.cell? ⟨w.heap.size, 1, none⟩ = some (.int .i64 0) := (kr4.cell 1).trans rfl
        have c2 : w4.cell? ⟨w.heap.size, 2, none⟩ = some (.int .i64 0) := (kr4.cell 2).trans rfl
        have fa0 := ke4.frozen 0
        have fc0 := kr4.frozen 0
        have fa1 := ke4.frozen 1
        have fc1 := kr4.frozen 1
        have fa2 := ke4.frozen 2
        have fc2 := kr4.frozen 2
        clear ke4 kr4
        go_wp2
        refine bodyPost_ret (v := evV x.k x.a r) (by simp [results, Try.results18, go_sem, c0, c1, c2]) rfl ?_
        exact ⟨x.k, x.a, r, rfl, (((X.out.setCell (by simp only; omega) _).setCell (Nat.le_refl _) _).setCell (Nat.le_refl _) _).setCell (Nat.le_refl _) _⟩
      · have b0 : (s == 0) = false := beq_eq_false_iff_ne.2 e0
        have b1 : (s == 1) = false := beq_eq_false_iff_ne.2 e1
        have b2 : (s == 2) = false := beq_eq_false_iff_ne.2 e2
        clear e0 e1 e2
        have X := hide X3
        clear S3 X3
        have a0 : w3.cell? ⟨w2.heap.size, 0, none⟩ = some (.int .i64 x.k) := (ke3.cell 0).trans rfl
        have a1 : w3.cell? ⟨w2.heap.size, 1, none⟩ = some (.int .i64 x.a) := (ke3.cell 1).trans rfl
        have a2 : w3.cell? ⟨w2.heap.size, 2, none⟩ = some (.int .i64 x.v) := (ke3.cell 2).trans rfl
        have c0 : w3.cell? ⟨w.heap.size, 0, none⟩ = some (.int .i64 0) := (kr3.cell 0).trans rfl
        have c1 : w3.cell? ⟨w.heap.size, 1, none⟩ = some (.int .i64 0) := (kr3.cell 1).trans rfl
        have c2 : w3.cell? ⟨w.heap.size, 2, none⟩ = some (.int .i64 0) := (kr3.cell 2).trans rfl
        have fa0 := ke3.frozen 0
        have fc0 := kr3.frozen 0
        have fa1 := ke3.frozen 1
        have fc1 := kr3.frozen 1
        have fa2 := ke3.frozen 2
        have fc2 := kr3.frozen 2
        clear ke3 kr3
        go_wp2
        refine bodyPost_ret (v := evV x.k x.a x.v) (by simp [results, Try.results18, go_sem, c0, c1, c2]) rfl ?_
        exact ⟨x.k, x.a, x.v, rfl, ((X.out.setCell (Nat.le_refl _) _).setCell (Nat.le_refl _) _).setCell (Nat.le_refl _) _⟩
end Go.Proofs.Ytjdbakebcdkfcaa
