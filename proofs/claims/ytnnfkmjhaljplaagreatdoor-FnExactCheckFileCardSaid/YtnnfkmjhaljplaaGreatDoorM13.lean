/- What the laws' walks rest upon, part 13. -/
import Derived.Test.YtnnfkmjhaljplaaGreatDoorM05
import Derived.Test.YtnnfkmjhaljplaaGreatDoorM01
import Derived.Test.YtnnfkmjhaljplaaGreatDoorM06
import Derived.Test.YtnnfkmjhaljplaaGreatDoorM11
import Derived.Test.YtnnfkmjhaljplaaGreatDoorM12
namespace Go.Proofs.YtnnfkmjhaljplaaGreatDoor
open Go.RowKit
structure FrdAt (w0 : World) (g gv base : Nat) (file d : List Int) (A A2 : Option Addr) (c c2 n ev : Nat) (cs : List (List Ev)) (us : List Value) (w : World) : Prop where
  blk : Bk w g #[.slice A file.length c, .slice A2 d.length c2, .slice (some ⟨gv, 0, none⟩) cs.length cs.length, .int .i64 n, .int .i64 ev] 117
  own : OwnT w base (.slice (some ⟨gv, 0, none⟩) cs.length cs.length) cs us
  rd : Rd .u8 w w0.heap.size A file
  rdd : Rd .u8 w w0.heap.size A2 d
  cd : d.length ≤ c2
  old : Below w0.heap.size w0 w
  lg : w0.heap.size ≤ g
  hg : g < base
section
variable {w0 w w' : World} {g gv base : Nat} {file d : List Int} {A A2 : Option Addr} {c c2 n ev : Nat} {cs : List (List Ev)} {us : List Value}
theorem FrdAt.below (h : FrdAt w0 g gv base file d A A2 c c2 n ev cs us w) (hb : Below w.heap.size w w') : FrdAt w0 g gv base file d A A2 c c2 n ev cs us w' :=
  ⟨h.blk.kept hb, h.own.below hb, h.rd.below (hb.mono h.old.size), h.rdd.below (hb.mono h.old.size), h.cd, h.old.trans (hb.mono h.old.size), h.lg, h.hg⟩
theorem FrdAt.drew (h : FrdAt w0 g gv base file d A A2 c c2 n ev cs us w) : FrdAt w0 g gv base file d A A2 c c2 n ev cs us w.drew := h.below (Below.refl _ _).drew
/-- A store into the reader. -/
theorem FrdAt.store (h : FrdAt w0 g gv base file d A A2 c c2 n ev cs us w) (i : Nat) (u : Value) {d' : List Int} {A2' : Option Addr} {c2' n' ev' : Nat}
    (hb : Bk (w.setCell ⟨g, i, none⟩ u) g #[.slice A file.length c, .slice A2' d'.length c2', .slice (some ⟨gv, 0, none⟩) cs.length cs.length, .int .i64 n', .int .i64 ev'] 117)
    (hd : Rd .u8 w w0.heap.size A2' d') (hc : d'.length ≤ c2') : FrdAt w0 g gv base file d' A A2' c c2' n' ev' cs us (w.setCell ⟨g, i, none⟩ u) := by
  have hB := (Below.refl w0.heap.size w).setCell (p := ⟨g, i, none⟩) h.lg u
  exact ⟨hb, h.own.kept (grown_set w g i u) (fun b e => by cases e; exact h.hg), h.rd.below hB, hd.below hB, hc, h.old.trans hB, h.lg, h.hg⟩
end
/-- What take tells. -/
def TkPost (w0 : World) (g gv base : Nat) (file d : List Int) (A A2 : Option Addr) (c c2 n ev : Nat) (cs : List (List Ev)) (us : List Value) (k : Nat) (E : List Ev) (w : World) (e : Ending) (w' : World) : Prop :=
  ((cs.getD k []).length + E.length ≤ 8 ∧ e = .returned (.tuple #[]) ∧ (∃ us', FrdAt w0 g gv base file d A A2 c c2 (n + 1) (ev + E.length) (cs.set k (cs.getD k [] ++ E)) us' w') ∧ ∀ p xs t, Bk w p xs t → p ≠ g → p ≠ gv → (∀ u ∈ us, u.ownBlock ≠ some p) → Bk w' p xs t) ∨
  (8 < (cs.getD k []).length + E.length ∧ e = .panicked [{ v := pn 1, recovered := false }] ∧ Below w0.heap.size w0 w')
set_option maxRecDepth 100000 in
set_option maxHeartbeats 2000000 in
theorem take_any (w0 : World) (g gv base : Nat) (file d : List Int) (A A2 : Option Addr) (c c2 n ev : Nat) (cs : List (List Ev)) (us : List Value) (k : Nat) (E : List Ev) (AE : Option Addr) (cE : Nat) (w : World) (hk : k < cs.length) (hE : E.length ≤ 8) (hall : ∀ l ∈ cs, l.length ≤ 8) (hn : n ≤ 4000) (hev : ev ≤ 4000)
    (hr : FrdAt w0 g gv base file d A A2 c c2 n ev cs us w) (rE0 : RdE w w.heap.size AE E) :
    Calls Tryz.prog 148 #[.pointer (some ⟨g, 0, none⟩), frV k AE E.length cE] w (TkPost w0 g gv base file d A A2 c c2 n ev cs us k E w) := by
  unfold TkPost frV
  obtain ⟨V, hV⟩ : ∃ V, V = w.alloc (Obj.cells #[Value.int .i64 k, .slice AE E.length cE] 201) := ⟨_, rfl⟩
  have bV : Below w.heap.size w V := by rw [hV]; exact (Below.refl _ _).alloc (Nat.le_refl _) _
  have kq : Bk V w.heap.size #[Value.int .i64 k, .slice AE E.length cE] 201 := by rw [hV]; exact Bk.new _ _ _
  have HV := hide hV
  have hgq : g < w.heap.size := hr.blk.lt
  have hgvq : gv < w.heap.size := (hr.own.row.lt gv rfl).2
  have hold : ∀ (i : Nat) (u : Value), us[i]? = some u → ∀ b, u.ownBlock = some b → b < w.heap.size := fun i u hu b hb => by
    obtain ⟨_, h1, _⟩ := hr.own.at_ hu
    exact (h1.lt b hb).2
  have hR := hr.below bV
  have rE := (rE0.below bV).lt
  obtain ⟨q, hq⟩ : ∃ q, q = w.heap.size := ⟨_, rfl⟩
  rw [← hq] at kq hgq hgvq hold
  have HQ := hide hq
  have HBV := hide bV
  clear hV hr rE0 bV hq
  obtain ⟨u, hu, hown, hu3⟩ := hR.own.rows k hk
  obtain ⟨ak, ck, hak⟩ := own_shape hown
  subst hak
  have hxk : V.cell? ⟨gv, k, none⟩ = some (.slice ak cs[k].length ck) := by
    rw [hR.own.row.cellAt k (by omega)]
    exact hu
  have hlk := hall _ (List.getElem_mem hk)
  have HG : Hid (cs.getD k [] = cs[k]) := hide (by simp [hk])
  rw [HG.out]
  obtain ⟨L, hL⟩ : ∃ L, L = cs[k] := ⟨_, rfl⟩
  rw [← hL] at hxk hlk HG hu hown ⊢
  have HL := hide hL
  have hA1 : decide (cs.length ≤ k) = false := decide_eq_false (by omega)
  have hA2 : ¬ cs.length ≤ k := by omega
  have hka : (0 : Int) ≤ (k : Int) := by omega
  have hkb : (k : Int) < (cs.length : Int) := by omega
  have g2 := (hR.blk.drew_.cell 2).trans (rfl : _ = some (Value.slice (some ⟨gv, 0, none⟩) cs.length cs.length))
  have q0 := (kq.drew_.cell 0).trans (rfl : _ = some (Value.int .i64 k))
  have q1 := (kq.drew_.cell 1).trans (rfl : _ = some (Value.slice AE E.length cE))
  have x0 : V.drew.cell? ⟨gv, k, none⟩ = some (.slice ak L.length ck) := hxk
  have HALL := hide hall
  clear hL hall hxk
  by_cases hD : L.length + E.length ≤ 8
  · have hw1 : IntKind.i64.wrap ((L.length : Int) + (E.length : Int)) = (L.length : Int) + (E.length : Int) := IntWalk.i64_in _ (by omega)
    have HD1 := hide (show decide (IntKind.i64.wrap ((L.length : Int) + (E.length : Int)) ≤ 8) = true by rw [hw1]; exact decide_eq_true (by omega))
    clear hw1
    go_enter Tryz.func148, Tryz.ntmps148
    go_wp2
    rw [← HV.out, ← HQ.out]
    refine wp_region_F 14 (fun w' => w'.cell? ⟨g, 2, none⟩ = some (Value.slice (some ⟨gv, 0, none⟩) cs.length cs.length) ∧ w'.cell? ⟨q, 0, none⟩ = some (Value.int .i64 k) ∧ w'.cell? ⟨q, 1, none⟩ = some (Value.slice AE E.length cE) ∧ w'.cell? ⟨gv, k, none⟩ = some (Value.slice ak L.length ck)) (fun w' => True) (by kernel_rfl) ⟨⟨g2, q0, q1, x0⟩, trivial⟩ (fun hHeld => ?_)
    try simp only [Act.put, List.setIfInBounds_toArray, List.set_cons_zero, List.set_cons_succ]
    refine wpAnyF_take (i := 0) (v := ?_) (by (simp only [List.getElem?_toArray, List.getElem?_cons_zero]; rfl)) (by kernel_rfl) (by kernel_rfl) (by kernel_rfl) (by decide) (by exact fun _ _ _ h => h) ⟨hHeld.1, .inr hHeld.2⟩ (Or.inl ⟨by rfl, ?_⟩) ?_
    rotate_left
    · (intro w' _; go_simp <;> with_reducible rfl)
    try simp only [Act.put, List.setIfInBounds_toArray, List.set_cons_zero, List.set_cons_succ]
    refine wpAnyF_take (i := 1) (v := ?_) (by (simp only [List.getElem?_toArray, List.getElem?_cons_succ, List.getElem?_cons_zero]; rfl)) (by kernel_rfl) (by kernel_rfl) (by kernel_rfl) (by decide) (by exact fun _ _ _ h => h) ⟨hHeld.1, .inr hHeld.2⟩ (Or.inl ⟨by rfl, ?_⟩) ?_
    rotate_left
    · (intro w' _; go_simp <;> with_reducible rfl)
    try simp only [Act.put, List.setIfInBounds_toArray, List.set_cons_zero, List.set_cons_succ]
    refine wpAnyF_take (i := 2) (v := ?_) (by (simp only [List.getElem?_toArray, List.getElem?_cons_succ, List.getElem?_cons_zero]; rfl)) (by kernel_rfl) (by kernel_rfl) (by kernel_rfl) (by decide) (by exact fun _ _ _ h => h) ⟨hHeld.1, .inr hHeld.2⟩ (Or.inl ⟨by rfl, ?_⟩) ?_
    rotate_left
    · (intro w' _; go_simp <;> with_reducible rfl)
    try simp only [Act.put, List.setIfInBounds_toArray, List.set_cons_zero, List.set_cons_succ]
    refine wpAnyF_keep (i := 3) (v := ?_) (by (simp only [List.getElem?_toArray, List.getElem?_cons_succ, List.getElem?_cons_zero]; rfl)) (by kernel_rfl) (by kernel_rfl) (by kernel_rfl) (by decide) (by exact fun _ _ _ h => h) ⟨hHeld.1, .inr hHeld.2⟩ (Or.inl ⟨by rfl, ?_⟩) ?_
    rotate_left
    · (intro w' hSw; (try dsimp only at hSw); obtain ⟨hSa0, hSa1, hSa2, hSa3⟩ := hSw; go_simp <;> with_reducible rfl)
    try simp only [Act.put, List.setIfInBounds_toArray, List.set_cons_zero, List.set_cons_succ]
    refine wpAnyF_take (i := 4) (v := ?_) (by (simp only [List.getElem?_toArray, List.getElem?_cons_succ, List.getElem?_cons_zero]; rfl)) (by kernel_rfl) (by kernel_rfl) (by kernel_rfl) (by decide) (by exact fun _ _ _ h => h) ⟨hHeld.1, .inr hHeld.2⟩ (Or.inl ⟨by rfl, ?_⟩) ?_
    rotate_left
    · (intro w' _; go_simp <;> with_reducible rfl)
    try simp only [Act.put, List.setIfInBounds_toArray, List.set_cons_zero, List.set_cons_succ]
    refine wpAnyF_keep (i := 5) (v := ?_) (by (simp only [List.getElem?_toArray, List.getElem?_cons_succ, List.getElem?_cons_zero]; rfl)) (by kernel_rfl) (by kernel_rfl) (by kernel_rfl) (by decide) (by exact fun _ _ _ h => h) ⟨hHeld.1, .inr hHeld.2⟩ (Or.inl ⟨by rfl, ?_⟩) ?_
    rotate_left
    · (intro w' hSw; (try dsimp only at hSw); obtain ⟨hSa0, hSa1, hSa2, hSa3⟩ := hSw; go_simp <;> with_reducible rfl)
    try simp only [Act.put, List.setIfInBounds_toArray, List.set_cons_zero, List.set_cons_succ]
    refine wpAnyF_take (i := 6) (v := ?_) (by (simp only [List.getElem?_toArray, List.getElem?_cons_succ, List.getElem?_cons_zero]; rfl)) (by kernel_rfl) (by kernel_rfl) (by kernel_rfl) (by decide) (by exact fun _ _ _ h => h) ⟨hHeld.1, .inr hHeld.2⟩ (Or.inl ⟨by rfl, ?_⟩) ?_
    rotate_left
    · (intro w' _; go_simp <;> with_reducible rfl)
    try simp only [Act.put, List.setIfInBounds_toArray, List.set_cons_zero, List.set_cons_succ]
    refine wpAnyF_keep (i := 7) (v := ?_) (by (simp only [List.getElem?_toArray, List.getElem?_cons_succ, List.getElem?_cons_zero]; rfl)) (by kernel_rfl) (by kernel_rfl) (by kernel_rfl) (by decide) (by exact fun _ _ _ h => h) ⟨hHeld.1, .inr hHeld.2⟩ (Or.inl ⟨by rfl, ?_⟩) ?_
    rotate_left
    · (intro w' hSw; (try dsimp only at hSw); obtain ⟨hSa0, hSa1, hSa2, hSa3⟩ := hSw; go_simp <;> with_reducible rfl)
    try simp only [Act.put, List.setIfInBounds_toArray, List.set_cons_zero, List.set_cons_succ]
    refine wpAnyF_take (i := 8) (v := ?_) (by (simp only [List.getElem?_toArray, List.getElem?_cons_succ, List.getElem?_cons_zero]; rfl)) (by kernel_rfl) (by kernel_rfl) (by kernel_rfl) (by decide) (by exact fun _ _ _ h => h) ⟨hHeld.1, .inr hHeld.2⟩ (Or.inl ⟨by rfl, ?_⟩) ?_
    rotate_left
    · (intro w' _; go_simp <;> with_reducible rfl)
    try simp only [Act.put, List.setIfInBounds_toArray, List.set_cons_zero, List.set_cons_succ]
    refine wpAnyF_take (i := 9) (v := ?_) (by (simp only [List.getElem?_toArray, List.getElem?_cons_succ, List.getElem?_cons_zero]; rfl)) (by kernel_rfl) (by kernel_rfl) (by kernel_rfl) (by decide) (by exact fun _ _ _ h => h) ⟨hHeld.1, .inr hHeld.2⟩ (Or.inl ⟨by rfl, ?_⟩) ?_
    rotate_left
    · (intro w' _; go_simp <;> with_reducible rfl)
    try simp only [Act.put, List.setIfInBounds_toArray, List.set_cons_zero, List.set_cons_succ]
    refine wpAnyF_keep (i := 10) (v := ?_) (by (simp only [List.getElem?_toArray, List.getElem?_cons_succ, List.getElem?_cons_zero]; rfl)) (by kernel_rfl) (by kernel_rfl) (by kernel_rfl) (by decide) (by exact fun _ _ _ h => h) ⟨hHeld.1, .inr hHeld.2⟩ (Or.inl ⟨by rfl, ?_⟩) ?_
    rotate_left
    · (intro w' hSw; (try dsimp only at hSw); obtain ⟨hSa0, hSa1, hSa2, hSa3⟩ := hSw; go_simp <;> with_reducible rfl)
    try simp only [Act.put, List.setIfInBounds_toArray, List.set_cons_zero, List.set_cons_succ]
    refine wpAnyF_take (i := 11) (v := ?_) (by (simp only [List.getElem?_toArray, List.getElem?_cons_succ, List.getElem?_cons_zero]; rfl)) (by kernel_rfl) (by kernel_rfl) (by kernel_rfl) (by decide) (by exact fun _ _ _ h => h) ⟨hHeld.1, .inr hHeld.2⟩ (Or.inl ⟨by rfl, ?_⟩) ?_
    rotate_left
    · (intro w' _; go_simp <;> with_reducible rfl)
    try simp only [Act.put, List.setIfInBounds_toArray, List.set_cons_zero, List.set_cons_succ]
    refine wpAnyF_take (i := 12) (v := ?_) (by (simp only [List.getElem?_toArray, List.getElem?_cons_succ, List.getElem?_cons_zero]; rfl)) (by kernel_rfl) (by kernel_rfl) (by kernel_rfl) (by decide) (by exact fun _ _ _ h => h) ⟨hHeld.1, .inr hHeld.2⟩ (Or.inl ⟨by rfl, ?_⟩) ?_
    rotate_left
    · (intro w' _; go_simp <;> with_reducible rfl)
    try simp only [Act.put, List.setIfInBounds_toArray, List.set_cons_zero, List.set_cons_succ]
    refine wpAnyF_take (i := 13) (v := ?_) (by (simp only [List.getElem?_toArray, List.getElem?_cons_succ, List.getElem?_cons_zero]; rfl)) (by kernel_rfl) (by kernel_rfl) (by kernel_rfl) (by decide) (by exact fun _ _ _ h => h) ⟨hHeld.1, .inr hHeld.2⟩ (Or.inl ⟨by rfl, ?_⟩) ?_
    rotate_left
    · (intro w' _; go_simp <;> with_reducible rfl)
    try simp only [Act.put, List.setIfInBounds_toArray, List.set_cons_zero, List.set_cons_succ]
    refine wpAnyF_ready (rs := [14]) (by kernel_rfl) (by simp) ?_
    refine AllReadyF.last (by (simp only [List.getElem?_toArray, List.getElem?_cons_succ, List.getElem?_cons_zero]; rfl)) (by kernel_rfl) (fun K hK => ?_) AllReadyF.nil
    go_simp
    rw [HD1.out]
    go_at_call 146
    refine (must_yes 1 _).mono ?_
    rintro e w3 ⟨rfl, rfl⟩
    refine hK.out _ _ ⟨g2, q0, q1, x0⟩ ?_
    clear hK K
    try simp only [Act.put, List.setIfInBounds_toArray, List.set_cons_zero, List.set_cons_succ]
    refine wpAnyF_done (by kernel_rfl) ?_ _
    have AC : ∀ w', Below V.heap.size V w' → w'.cell? ⟨g, 2, none⟩ = some (Value.slice (some ⟨gv, 0, none⟩) cs.length cs.length) ∧ w'.cell? ⟨q, 0, none⟩ = some (Value.int .i64 k) ∧ w'.cell? ⟨q, 1, none⟩ = some (Value.slice AE E.length cE) := fun w' h => ⟨((hR.below h).blk.cell 2).trans rfl, ((kq.kept h).cell 0).trans rfl, ((kq.kept h).cell 1).trans rfl⟩
    have SC : ∀ w', Below V.heap.size V w' → w'.cell? ⟨gv, k, none⟩ = some (Value.slice ak L.length ck) := fun w' h => by rw [(hR.own.below h).row.cellAt k (by omega)]; exact hu
    have a2 := AC V.drew.drew (Below.refl _ _).drew.drew
    have s2 := SC V.drew.drew (Below.refl _ _).drew.drew
    have hown : V.drew.drew.ownsRow base 48 3 (.slice ak L.length ck) L.length (evs L) := hown
    have rE2 : RdE V.drew.drew V.heap.size AE E := rE
    obtain ⟨i0, hi, hz0, hz1, hz2⟩ := info_parts info_event
    have HRR := hide hR
    have KQ := hide kq
    clear g2 q0 q1 x0 hR kq rE
    go_wp2
    refine wp_region_F 16 (fun w' => w'.cell? ⟨g, 2, none⟩ = some (Value.slice (some ⟨gv, 0, none⟩) cs.length cs.length) ∧ w'.cell? ⟨q, 0, none⟩ = some (Value.int .i64 k) ∧ w'.cell? ⟨q, 1, none⟩ = some (Value.slice AE E.length cE)) (fun w' => w'.cell? ⟨gv, k, none⟩ = some (Value.slice ak L.length ck)) (by kernel_rfl) ⟨a2, s2⟩ (fun hHeld => ?_)
    try simp only [Act.put, List.setIfInBounds_toArray, List.set_cons_zero, List.set_cons_succ]
    refine wpAnyF_take (i := 0) (v := ?_) (by (simp only [List.getElem?_toArray, List.getElem?_cons_zero]; rfl)) (by kernel_rfl) (by kernel_rfl) (by kernel_rfl) (by decide) (by exact fun _ _ _ h => h) ⟨hHeld.1, .inr hHeld.2⟩ (Or.inl ⟨by rfl, ?_⟩) ?_
    rotate_left
    · (intro w' _; go_simp <;> with_reducible rfl)
    try simp only [Act.put, List.setIfInBounds_toArray, List.set_cons_zero, List.set_cons_succ]
    refine wpAnyF_take (i := 1) (v := ?_) (by (simp only [List.getElem?_toArray, List.getElem?_cons_succ, List.getElem?_cons_zero]; rfl)) (by kernel_rfl) (by kernel_rfl) (by kernel_rfl) (by decide) (by exact fun _ _ _ h => h) ⟨hHeld.1, .inr hHeld.2⟩ (Or.inl ⟨by rfl, ?_⟩) ?_
    rotate_left
    · (intro w' _; go_simp <;> with_reducible rfl)
    try simp only [Act.put, List.setIfInBounds_toArray, List.set_cons_zero, List.set_cons_succ]
    refine wpAnyF_take (i := 2) (v := ?_) (by (simp only [List.getElem?_toArray, List.getElem?_cons_succ, List.getElem?_cons_zero]; rfl)) (by kernel_rfl) (by kernel_rfl) (by kernel_rfl) (by decide) (by exact fun _ _ _ h => h) ⟨hHeld.1, .inr hHeld.2⟩ (Or.inl ⟨by rfl, ?_⟩) ?_
    rotate_left
    · (intro w' _; go_simp <;> with_reducible rfl)
    try simp only [Act.put, List.setIfInBounds_toArray, List.set_cons_zero, List.set_cons_succ]
    refine wpAnyF_keep (i := 3) (v := ?_) (by (simp only [List.getElem?_toArray, List.getElem?_cons_succ, List.getElem?_cons_zero]; rfl)) (by kernel_rfl) (by kernel_rfl) (by kernel_rfl) (by decide) (by exact fun _ _ _ h => h) ⟨hHeld.1, .inr hHeld.2⟩ (Or.inl ⟨by rfl, ?_⟩) ?_
    rotate_left
    · (intro w' hSw; (try dsimp only at hSw); obtain ⟨hSa0, hSa1, hSa2⟩ := hSw; go_simp <;> with_reducible rfl)
    try simp only [Act.put, List.setIfInBounds_toArray, List.set_cons_zero, List.set_cons_succ]
    refine wpAnyF_take (i := 4) (v := ?_) (by (simp only [List.getElem?_toArray, List.getElem?_cons_succ, List.getElem?_cons_zero]; rfl)) (by kernel_rfl) (by kernel_rfl) (by kernel_rfl) (by decide) (by exact fun _ _ _ h => h) ⟨hHeld.1, .inr hHeld.2⟩ (Or.inl ⟨by rfl, ?_⟩) ?_
    rotate_left
    · (intro w' _; go_simp <;> with_reducible rfl)
    try simp only [Act.put, List.setIfInBounds_toArray, List.set_cons_zero, List.set_cons_succ]
    refine wpAnyF_keep (i := 5) (v := ?_) (by (simp only [List.getElem?_toArray, List.getElem?_cons_succ, List.getElem?_cons_zero]; rfl)) (by kernel_rfl) (by kernel_rfl) (by kernel_rfl) (by decide) (by exact fun _ _ _ h => h) ⟨hHeld.1, .inr hHeld.2⟩ (Or.inl ⟨by rfl, ?_⟩) ?_
    rotate_left
    · (intro w' hSw; (try dsimp only at hSw); obtain ⟨hSa0, hSa1, hSa2⟩ := hSw; go_simp <;> with_reducible rfl)
    try simp only [Act.put, List.setIfInBounds_toArray, List.set_cons_zero, List.set_cons_succ]
    refine wpAnyF_take (i := 6) (v := ?_) (by (simp only [List.getElem?_toArray, List.getElem?_cons_succ, List.getElem?_cons_zero]; rfl)) (by kernel_rfl) (by kernel_rfl) (by kernel_rfl) (by decide) (by exact fun _ _ _ h => h) ⟨hHeld.1, .inr hHeld.2⟩ (Or.inl ⟨by rfl, ?_⟩) ?_
    rotate_left
    · (intro w' _; go_simp <;> with_reducible rfl)
    try simp only [Act.put, List.setIfInBounds_toArray, List.set_cons_zero, List.set_cons_succ]
    refine wpAnyF_take (i := 7) (v := ?_) (by (simp only [List.getElem?_toArray, List.getElem?_cons_succ, List.getElem?_cons_zero]; rfl)) (by kernel_rfl) (by kernel_rfl) (by kernel_rfl) (by decide) (by exact fun _ _ _ h => h) ⟨hHeld.1, .inr hHeld.2⟩ (Or.inl ⟨by rfl, ?_⟩) ?_
    rotate_left
    · (intro w' _; go_simp <;> with_reducible rfl)
    try simp only [Act.put, List.setIfInBounds_toArray, List.set_cons_zero, List.set_cons_succ]
    refine wpAnyF_take (i := 8) (v := ?_) (by (simp only [List.getElem?_toArray, List.getElem?_cons_succ, List.getElem?_cons_zero]; rfl)) (by kernel_rfl) (by kernel_rfl) (by kernel_rfl) (by decide) (by exact fun _ _ _ h => h) ⟨hHeld.1, .inr hHeld.2⟩ (Or.inl ⟨by rfl, ?_⟩) ?_
    rotate_left
    · (intro w' _; go_simp <;> with_reducible rfl)
    try simp only [Act.put, List.setIfInBounds_toArray, List.set_cons_zero, List.set_cons_succ]
    refine wpAnyF_keep (i := 9) (v := ?_) (by (simp only [List.getElem?_toArray, List.getElem?_cons_succ, List.getElem?_cons_zero]; rfl)) (by kernel_rfl) (by kernel_rfl) (by kernel_rfl) (by decide) (by exact fun _ _ _ h => h) ⟨hHeld.1, .inr hHeld.2⟩ (Or.inl ⟨by rfl, ?_⟩) ?_
    rotate_left
    · (intro w' hSw; (try dsimp only at hSw); obtain ⟨hSa0, hSa1, hSa2⟩ := hSw; go_simp <;> with_reducible rfl)
    try simp only [Act.put, List.setIfInBounds_toArray, List.set_cons_zero, List.set_cons_succ]
    refine wpAnyF_take (i := 10) (v := ?_) (by (simp only [List.getElem?_toArray, List.getElem?_cons_succ, List.getElem?_cons_zero]; rfl)) (by kernel_rfl) (by kernel_rfl) (by kernel_rfl) (by decide) (by exact fun _ _ _ h => h) ⟨hHeld.1, .inr hHeld.2⟩ (Or.inl ⟨by rfl, ?_⟩) ?_
    rotate_left
    · (intro w' _; go_simp <;> with_reducible rfl)
    try simp only [Act.put, List.setIfInBounds_toArray, List.set_cons_zero, List.set_cons_succ]
    refine wpAnyF_keep (i := 11) (v := ?_) (by (simp only [List.getElem?_toArray, List.getElem?_cons_succ, List.getElem?_cons_zero]; rfl)) (by kernel_rfl) (by kernel_rfl) (by kernel_rfl) (by decide) (by exact fun _ _ _ h => h) ⟨hHeld.1, .inr hHeld.2⟩ (Or.inl ⟨by rfl, ?_⟩) ?_
    rotate_left
    · (intro w' hSw; (try dsimp only at hSw); obtain ⟨hSa0, hSa1, hSa2⟩ := hSw; go_simp <;> with_reducible rfl)
    try simp only [Act.put, List.setIfInBounds_toArray, List.set_cons_zero, List.set_cons_succ]
    refine wpAnyF_take (i := 12) (v := ?_) (by (simp only [List.getElem?_toArray, List.getElem?_cons_succ, List.getElem?_cons_zero]; rfl)) (by kernel_rfl) (by kernel_rfl) (by kernel_rfl) (by decide) (by exact fun _ _ _ h => h) ⟨hHeld.1, .inr hHeld.2⟩ (Or.inl ⟨by rfl, ?_⟩) ?_
    rotate_left
    · (intro w' _; go_simp <;> with_reducible rfl)
    try simp only [Act.put, List.setIfInBounds_toArray, List.set_cons_zero, List.set_cons_succ]
    refine wpAnyF_load (i := 13) (v := ?_) (by (simp only [List.getElem?_toArray, List.getElem?_cons_succ, List.getElem?_cons_zero]; rfl)) (by kernel_rfl) (by kernel_rfl) (by kernel_rfl) (by decide) (by exact fun _ _ _ h => h) hHeld (by kernel_rfl) (by kernel_rfl) (Or.inl ⟨by rfl, ?_⟩) ?_
    rotate_left
    · (intro w' hSw; (try dsimp only at hSw); obtain hSb0 := hSw; go_simp <;> with_reducible rfl)
    try simp only [Act.put, List.setIfInBounds_toArray, List.set_cons_zero, List.set_cons_succ]
    refine wpAnyF_take (i := 14) (v := ?_) (by (simp only [List.getElem?_toArray, List.getElem?_cons_succ, List.getElem?_cons_zero]; rfl)) (by kernel_rfl) (by kernel_rfl) (by kernel_rfl) (by decide) (by exact fun _ _ _ h => h) ⟨hHeld.1, .inr hHeld.2⟩ (Or.inl ⟨by rfl, ?_⟩) ?_
    rotate_left
    · (intro w' _; go_simp <;> with_reducible rfl)
    try simp only [Act.put, List.setIfInBounds_toArray, List.set_cons_zero, List.set_cons_succ]
    refine wpAnyF_keep (i := 15) (v := ?_) (by (simp only [List.getElem?_toArray, List.getElem?_cons_succ, List.getElem?_cons_zero]; rfl)) (by kernel_rfl) (by kernel_rfl) (by kernel_rfl) (by decide) (by exact fun _ _ _ h => h) ⟨hHeld.1, .inr hHeld.2⟩ (Or.inl ⟨by rfl, ?_⟩) ?_
    rotate_left
    · (intro w' hSw; (try dsimp only at hSw); obtain ⟨hSa0, hSa1, hSa2⟩ := hSw; go_simp <;> with_reducible rfl)
    try simp only [Act.put, List.setIfInBounds_toArray, List.set_cons_zero, List.set_cons_succ]
    refine wpAnyF_ready (rs := [16]) (by kernel_rfl) (by simp) ?_
    refine AllReadyF.last (by (simp only [List.getElem?_toArray, List.getElem?_cons_succ, List.getElem?_cons_zero]; rfl)) (by kernel_rfl) (fun K hK => ?_) AllReadyF.nil
    refine step_append_re _ (by rfl) (.tmp 32) (.tmp 34) 45 (by rfl) base 48 i0 (.agg #[.int .i64 0, .int .i64 0, .int .i64 0]) 24 Tryz.underlying45 hi hz0 hz1 hz2 rfl (.slice ak L.length ck) L.length (evs L) (by rfl) hown AE E cE V.heap.size (by rfl) rE2 (by unfold maxLen; omega) (by omega) (by have := HRR.out.own.row.lt gv rfl; show base ≤ V.heap.size; omega) ?_
    intro v5 w5 o5 g5 hat5
    rw [← evs_append, ← List.length_append] at o5
    obtain ⟨D5, d5, hv5⟩ := own_shape o5
    subst hv5
    have hru : ∀ b, (Value.slice ak L.length ck).ownBlock = some b → b < q ∧ base ≤ b := fun b hb => ⟨hold _ _ hu b hb, (hown.lt b hb).1⟩
    have hru3 : ∀ b, (Value.slice ak L.length ck).ownBlock = some b → b ≠ gv := fun b hb e => by rw [HL.out] at hb; subst e; exact hu3 b hb rfl
    have hlg := HRR.out.hg
    have bk5 := HRR.out.blk.drew_.drew_.grown g5 (fun e => by have := (hru g e.symm).2; omega)
    have kq5 := KQ.out.drew_.drew_.grown g5 (fun e => by have := (hru q e.symm).1; omega)
    have row5 := (show V.drew.drew.ownsRow base 45 1 (.slice (some ⟨gv, 0, none⟩) cs.length cs.length) cs.length us from HRR.out.own.row).kept g5 (own_sep fun b hb e => by simp only [Value.ownBlock, Option.some.injEq] at hb; subst hb; exact hru3 _ e rfl)
    have hf5 := row5.frozenAt k
    have hc5 : w5.cell? ⟨gv, k, none⟩ = some (.slice ak L.length ck) := by rw [row5.cellAt k (by omega)]; exact hu
    have hgvb : base ≤ gv := (HRR.out.own.row.lt gv rfl).1
    have nga : g ≠ gv := by omega
    have nqa : q ≠ gv := by omega
    have A5 : w5.cell? ⟨g, 2, none⟩ = some (Value.slice (some ⟨gv, 0, none⟩) cs.length cs.length) ∧ w5.cell? ⟨q, 0, none⟩ = some (Value.int .i64 k) ∧ w5.cell? ⟨q, 1, none⟩ = some (Value.slice AE E.length cE) := ⟨(bk5.cell 2).trans rfl, (kq5.cell 0).trans rfl, (kq5.cell 1).trans rfl⟩
    have A6 : ∀ x, (w5.setCell ⟨gv, k, none⟩ x).cell? ⟨g, 2, none⟩ = some (Value.slice (some ⟨gv, 0, none⟩) cs.length cs.length) ∧ (w5.setCell ⟨gv, k, none⟩ x).cell? ⟨q, 0, none⟩ = some (Value.int .i64 k) ∧ (w5.setCell ⟨gv, k, none⟩ x).cell? ⟨q, 1, none⟩ = some (Value.slice AE E.length cE) := fun x => ⟨((bk5.far (p := ⟨gv, k, none⟩) nga x).cell 2).trans rfl, ((kq5.far (p := ⟨gv, k, none⟩) nqa x).cell 0).trans rfl, ((kq5.far (p := ⟨gv, k, none⟩) nqa x).cell 1).trans rfl⟩
    have HO := hide o5
    have HGR := hide g5
    have HAT := hide hat5
    have BK := hide bk5
    have KK := hide kq5
    have HOW := hide hown
    clear o5 g5 hat5 bk5 kq5 row5 hown rE2
    refine hK.out _ _ A5 ?_
    clear hK K
    try simp only [Act.put, List.setIfInBounds_toArray, List.set_cons_zero, List.set_cons_succ]
    refine wpAnyF_take (i := 17) (v := ?_) (by (simp only [List.getElem?_toArray, List.getElem?_cons_succ, List.getElem?_cons_zero]; rfl)) (by kernel_rfl) (by kernel_rfl) (by kernel_rfl) (by decide) (by exact fun _ _ _ h => h) ⟨A5, .inl (by kernel_rfl)⟩ (Or.inl ⟨by rfl, ?_⟩) ?_
    rotate_left
    · (intro w' _; go_simp <;> with_reducible rfl)
    try simp only [Act.put, List.setIfInBounds_toArray, List.set_cons_zero, List.set_cons_succ]
    refine wpAnyF_ready (rs := [18]) (by kernel_rfl) (by simp) ?_
    refine AllReadyF.last (by (simp only [List.getElem?_toArray, List.getElem?_cons_succ, List.getElem?_cons_zero]; rfl)) (by kernel_rfl) (fun K hK => ?_) AllReadyF.nil
    go_simp
    refine hK.out _ _ (A6 _) ?_
    clear hK K
    try simp only [Act.put, List.setIfInBounds_toArray, List.set_cons_zero, List.set_cons_succ]
    refine wpAnyF_done (by kernel_rfl) ?_ _
    have hlen : (L ++ E).length = L.length + E.length := List.length_append
    have oS := (HRR.out.own.below (Below.refl V.heap.size V).drew.drew).swap (es' := L ++ E) hu HGR.out (fun b e => .inl e) HO.out (fun b hb => by
      rcases HAT.out with e | e
      · exact .inl (e.symm.trans hb)
      · rw [e] at hb; simp only [Option.some.injEq] at hb; exact .inr (Nat.le_of_eq hb))
    have hwv : w0.heap.size ≤ V.heap.size := HRR.out.old.size
    have hlo : w0.heap.size ≤ base := by have := HRR.out.lg; have := HRR.out.hg; omega
    have bW : Below w0.heap.size V (w5.setCell ⟨gv, k, none⟩ (.slice D5 (L.length + E.length) d5)) := ((Below.refl w0.heap.size V).drew.drew.trans (grown_below HOW.out HGR.out hwv hlo)).setCell (by simp only; omega) _
    rw [hlen] at oS
    have bkX := BK.out.far (p := ⟨gv, k, none⟩) nga (.slice D5 (L.length + E.length) d5)
    have kqX := KK.out.far (p := ⟨gv, k, none⟩) nqa (.slice D5 (L.length + E.length) d5)
    have KP : ∀ p xs t, Bk w p xs t → p ≠ g → p ≠ gv → (∀ u ∈ us, u.ownBlock ≠ some p) → Bk (w5.setCell ⟨gv, k, none⟩ (.slice D5 (L.length + E.length) d5)) p xs t := fun p xs t h h1 h2 h3 => (((h.kept HBV.out).drew_.drew_).grown HGR.out (fun e => h3 _ (List.mem_of_getElem? hu) e.symm)).far (p := ⟨gv, k, none⟩) h2 _
    generalize w5.setCell ⟨gv, k, none⟩ (.slice D5 (L.length + E.length) d5) = Y at *
    have HKP := hide KP
    clear KP
    have FY : FrdAt w0 g gv base file d A A2 c c2 n ev (cs.set k (L ++ E)) (us.set k (.slice D5 (L.length + E.length) d5)) Y :=
      ⟨by rw [List.length_set]; exact bkX, by rw [List.length_set]; exact oS, HRR.out.rd.below bW, HRR.out.rdd.below bW, HRR.out.cd, HRR.out.old.trans bW, HRR.out.lg, HRR.out.hg⟩
    clear HO HGR HAT BK KK A5 A6 AC SC hc5 hf5 oS bW hlen hu hu3 hru hru3 hHeld HOW HRR KQ a2 s2
    have hMl : (cs.set k (L ++ E)).length = cs.length := List.length_set
    obtain ⟨M, hM⟩ : ∃ M, M = cs.set k (L ++ E) := ⟨_, rfl⟩
    have HM := hide hM
    obtain ⟨US, hUS⟩ : ∃ US, US = us.set k (.slice D5 (L.length + E.length) d5) := ⟨_, rfl⟩
    rw [← hM] at FY hMl
    rw [← hUS] at FY
    clear hM hUS
    have b3 := (FY.blk.cell 3).trans (rfl : _ = some (Value.int .i64 n))
    have x3 := FY.blk.frozen 3
    go_wp2
    have F3 := FY.store 3 (.int .i64 ((n : Int) + 1)) (n' := n + 1) (ev' := ev) (d' := d) (A2' := A2) (c2' := c2) (by have := FY.blk.set_ 3 (.int .i64 ((n : Int) + 1)); exact this) FY.rdd FY.cd
    have kq3 := kqX.far (p := ⟨g, 3, none⟩) (show q ≠ g by omega) (.int .i64 ((n : Int) + 1))
    have KP : ∀ p xs t, Bk w p xs t → p ≠ g → p ≠ gv → (∀ u ∈ us, u.ownBlock ≠ some p) → Bk (Y.setCell ⟨g, 3, none⟩ (.int .i64 ((n : Int) + 1))) p xs t := fun p xs t h h1 h2 h3 => (HKP.out p xs t h h1 h2 h3).far (p := ⟨g, 3, none⟩) h1 _
    generalize Y.setCell ⟨g, 3, none⟩ (.int .i64 ((n : Int) + 1)) = Z at F3 kq3 KP ⊢
    have HKP2 := hide KP
    clear KP
    clear b3 x3 FY bkX kqX
    have a4 := (kq3.drew_.cell 1).trans (rfl : _ = some (Value.slice AE E.length cE))
    have s4 := (F3.drew.blk.cell 4).trans (rfl : _ = some (Value.int .i64 ev))
    have x4 := F3.drew.blk.frozen 4
    have hw4 : IntKind.i64.wrap ((ev : Int) + (E.length : Int)) = (ev : Int) + (E.length : Int) := IntWalk.i64_in _ (by omega)
    refine wp_region_F 10 (fun w' => w'.cell? ⟨q, 1, none⟩ = some (Value.slice AE E.length cE)) (fun w' => w'.cell? ⟨g, 4, none⟩ = some (Value.int .i64 ev)) (by kernel_rfl) ⟨a4, s4⟩ (fun hHeld => ?_)
    try simp only [Act.put, List.setIfInBounds_toArray, List.set_cons_zero, List.set_cons_succ]
    refine wpAnyF_take (i := 0) (v := ?_) (by (simp only [List.getElem?_toArray, List.getElem?_cons_zero]; rfl)) (by kernel_rfl) (by kernel_rfl) (by kernel_rfl) (by decide) (by exact fun _ _ _ h => h) ⟨hHeld.1, .inr hHeld.2⟩ (Or.inl ⟨by rfl, ?_⟩) ?_
    rotate_left
    · (intro w' _; go_simp <;> with_reducible rfl)
    try simp only [Act.put, List.setIfInBounds_toArray, List.set_cons_zero, List.set_cons_succ]
    refine wpAnyF_take (i := 1) (v := ?_) (by (simp only [List.getElem?_toArray, List.getElem?_cons_succ, List.getElem?_cons_zero]; rfl)) (by kernel_rfl) (by kernel_rfl) (by kernel_rfl) (by decide) (by exact fun _ _ _ h => h) ⟨hHeld.1, .inr hHeld.2⟩ (Or.inl ⟨by rfl, ?_⟩) ?_
    rotate_left
    · (intro w' _; go_simp <;> with_reducible rfl)
    try simp only [Act.put, List.setIfInBounds_toArray, List.set_cons_zero, List.set_cons_succ]
    refine wpAnyF_take (i := 2) (v := ?_) (by (simp only [List.getElem?_toArray, List.getElem?_cons_succ, List.getElem?_cons_zero]; rfl)) (by kernel_rfl) (by kernel_rfl) (by kernel_rfl) (by decide) (by exact fun _ _ _ h => h) ⟨hHeld.1, .inr hHeld.2⟩ (Or.inl ⟨by rfl, ?_⟩) ?_
    rotate_left
    · (intro w' _; go_simp <;> with_reducible rfl)
    try simp only [Act.put, List.setIfInBounds_toArray, List.set_cons_zero, List.set_cons_succ]
    refine wpAnyF_load (i := 3) (v := ?_) (by (simp only [List.getElem?_toArray, List.getElem?_cons_succ, List.getElem?_cons_zero]; rfl)) (by kernel_rfl) (by kernel_rfl) (by kernel_rfl) (by decide) (by exact fun _ _ _ h => h) hHeld (by kernel_rfl) (by kernel_rfl) (Or.inl ⟨by rfl, ?_⟩) ?_
    rotate_left
    · (intro w' hSw; (try dsimp only at hSw); obtain hSb0 := hSw; go_simp <;> with_reducible rfl)
    try simp only [Act.put, List.setIfInBounds_toArray, List.set_cons_zero, List.set_cons_succ]
    refine wpAnyF_take (i := 4) (v := ?_) (by (simp only [List.getElem?_toArray, List.getElem?_cons_succ, List.getElem?_cons_zero]; rfl)) (by kernel_rfl) (by kernel_rfl) (by kernel_rfl) (by decide) (by exact fun _ _ _ h => h) ⟨hHeld.1, .inr hHeld.2⟩ (Or.inl ⟨by rfl, ?_⟩) ?_
    rotate_left
    · (intro w' _; go_simp <;> with_reducible rfl)
    try simp only [Act.put, List.setIfInBounds_toArray, List.set_cons_zero, List.set_cons_succ]
    refine wpAnyF_keep (i := 5) (v := ?_) (by (simp only [List.getElem?_toArray, List.getElem?_cons_succ, List.getElem?_cons_zero]; rfl)) (by kernel_rfl) (by kernel_rfl) (by kernel_rfl) (by decide) (by exact fun _ _ _ h => h) ⟨hHeld.1, .inr hHeld.2⟩ (Or.inl ⟨by rfl, ?_⟩) ?_
    rotate_left
    · (intro w' hSw; (try dsimp only at hSw); obtain hSa0 := hSw; go_simp <;> with_reducible rfl)
    try simp only [Act.put, List.setIfInBounds_toArray, List.set_cons_zero, List.set_cons_succ]
    refine wpAnyF_take (i := 6) (v := ?_) (by (simp only [List.getElem?_toArray, List.getElem?_cons_succ, List.getElem?_cons_zero]; rfl)) (by kernel_rfl) (by kernel_rfl) (by kernel_rfl) (by decide) (by exact fun _ _ _ h => h) ⟨hHeld.1, .inr hHeld.2⟩ (Or.inl ⟨by rfl, ?_⟩) ?_
    rotate_left
    · (intro w' _; go_simp <;> with_reducible rfl)
    try simp only [Act.put, List.setIfInBounds_toArray, List.set_cons_zero, List.set_cons_succ]
    refine wpAnyF_take (i := 7) (v := ?_) (by (simp only [List.getElem?_toArray, List.getElem?_cons_succ, List.getElem?_cons_zero]; rfl)) (by kernel_rfl) (by kernel_rfl) (by kernel_rfl) (by decide) (by exact fun _ _ _ h => h) ⟨hHeld.1, .inr hHeld.2⟩ (Or.inl ⟨by rfl, ?_⟩) ?_
    rotate_left
    · (intro w' _; go_simp <;> with_reducible rfl)
    try simp only [Act.put, List.setIfInBounds_toArray, List.set_cons_zero, List.set_cons_succ]
    refine wpAnyF_take (i := 8) (v := ?_) (by (simp only [List.getElem?_toArray, List.getElem?_cons_succ, List.getElem?_cons_zero]; rfl)) (by kernel_rfl) (by kernel_rfl) (by kernel_rfl) (by decide) (by exact fun _ _ _ h => h) ⟨hHeld.1, .inr hHeld.2⟩ (Or.inl ⟨by rfl, ?_⟩) ?_
    rotate_left
    · (intro w' _; go_simp <;> with_reducible rfl)
    try simp only [Act.put, List.setIfInBounds_toArray, List.set_cons_zero, List.set_cons_succ]
    refine wpAnyF_take (i := 9) (v := ?_) (by (simp only [List.getElem?_toArray, List.getElem?_cons_succ, List.getElem?_cons_zero]; rfl)) (by kernel_rfl) (by kernel_rfl) (by kernel_rfl) (by decide) (by exact fun _ _ _ h => h) ⟨hHeld.1, .inr hHeld.2⟩ (Or.inl ⟨by rfl, ?_⟩) ?_
    rotate_left
    · (intro w' _; go_simp <;> with_reducible rfl)
    try simp only [Act.put, List.setIfInBounds_toArray, List.set_cons_zero, List.set_cons_succ]
    refine wpAnyF_ready (rs := [10]) (by kernel_rfl) (by simp) ?_
    refine AllReadyF.last (by (simp only [List.getElem?_toArray, List.getElem?_cons_succ, List.getElem?_cons_zero]; rfl)) (by kernel_rfl) (fun K hK => ?_) AllReadyF.nil
    go_simp
    refine hK.out _ _ (((kq3.drew_.far (p := ⟨g, 4, none⟩) (show q ≠ g by omega) _).cell 1).trans rfl) ?_
    clear hK K
    try simp only [Act.put, List.setIfInBounds_toArray, List.set_cons_zero, List.set_cons_succ]
    refine wpAnyF_done (by kernel_rfl) ?_ _
    go_wp2
    go_end0
    have F4 := (F3.store 4 (.int .i64 ((ev : Int) + (E.length : Int))) (n' := n + 1) (ev' := ev + E.length) (d' := d) (A2' := A2) (c2' := c2) (by have := F3.blk.set_ 4 (.int .i64 ((ev : Int) + (E.length : Int))); exact this) F3.rdd F3.cd).drew
    rw [HM.out] at F4
    exact .inl ⟨hD, rfl, ⟨_, F4⟩, fun p xs t h h1 h2 h3 => (((HKP2.out p xs t h h1 h2 h3).far (p := ⟨g, 4, none⟩) h1 _).drew_)⟩
  · have hw1 : IntKind.i64.wrap ((L.length : Int) + (E.length : Int)) = (L.length : Int) + (E.length : Int) := IntWalk.i64_in _ (by omega)
    have HD1 := hide (show decide (IntKind.i64.wrap ((L.length : Int) + (E.length : Int)) ≤ 8) = false by rw [hw1]; exact decide_eq_false (by omega))
    clear hw1
    have bW := hR.old.drew
    go_enter Tryz.func148, Tryz.ntmps148
    go_wp2
    rw [← HV.out, ← HQ.out]
    refine wp_region_F 14 (fun w' => w'.cell? ⟨g, 2, none⟩ = some (Value.slice (some ⟨gv, 0, none⟩) cs.length cs.length) ∧ w'.cell? ⟨q, 0, none⟩ = some (Value.int .i64 k) ∧ w'.cell? ⟨q, 1, none⟩ = some (Value.slice AE E.length cE) ∧ w'.cell? ⟨gv, k, none⟩ = some (Value.slice ak L.length ck)) (fun w' => True) (by kernel_rfl) ⟨⟨g2, q0, q1, x0⟩, trivial⟩ (fun hHeld => ?_)
    try simp only [Act.put, List.setIfInBounds_toArray, List.set_cons_zero, List.set_cons_succ]
    refine wpAnyF_take (i := 0) (v := ?_) (by (simp only [List.getElem?_toArray, List.getElem?_cons_zero]; rfl)) (by kernel_rfl) (by kernel_rfl) (by kernel_rfl) (by decide) (by exact fun _ _ _ h => h) ⟨hHeld.1, .inr hHeld.2⟩ (Or.inl ⟨by rfl, ?_⟩) ?_
    rotate_left
    · (intro w' _; go_simp <;> with_reducible rfl)
    try simp only [Act.put, List.setIfInBounds_toArray, List.set_cons_zero, List.set_cons_succ]
    refine wpAnyF_take (i := 1) (v := ?_) (by (simp only [List.getElem?_toArray, List.getElem?_cons_succ, List.getElem?_cons_zero]; rfl)) (by kernel_rfl) (by kernel_rfl) (by kernel_rfl) (by decide) (by exact fun _ _ _ h => h) ⟨hHeld.1, .inr hHeld.2⟩ (Or.inl ⟨by rfl, ?_⟩) ?_
    rotate_left
    · (intro w' _; go_simp <;> with_reducible rfl)
    try simp only [Act.put, List.setIfInBounds_toArray, List.set_cons_zero, List.set_cons_succ]
    refine wpAnyF_take (i := 2) (v := ?_) (by (simp only [List.getElem?_toArray, List.getElem?_cons_succ, List.getElem?_cons_zero]; rfl)) (by kernel_rfl) (by kernel_rfl) (by kernel_rfl) (by decide) (by exact fun _ _ _ h => h) ⟨hHeld.1, .inr hHeld.2⟩ (Or.inl ⟨by rfl, ?_⟩) ?_
    rotate_left
    · (intro w' _; go_simp <;> with_reducible rfl)
    try simp only [Act.put, List.setIfInBounds_toArray, List.set_cons_zero, List.set_cons_succ]
    refine wpAnyF_keep (i := 3) (v := ?_) (by (simp only [List.getElem?_toArray, List.getElem?_cons_succ, List.getElem?_cons_zero]; rfl)) (by kernel_rfl) (by kernel_rfl) (by kernel_rfl) (by decide) (by exact fun _ _ _ h => h) ⟨hHeld.1, .inr hHeld.2⟩ (Or.inl ⟨by rfl, ?_⟩) ?_
    rotate_left
    · (intro w' hSw; (try dsimp only at hSw); obtain ⟨hSa0, hSa1, hSa2, hSa3⟩ := hSw; go_simp <;> with_reducible rfl)
    try simp only [Act.put, List.setIfInBounds_toArray, List.set_cons_zero, List.set_cons_succ]
    refine wpAnyF_take (i := 4) (v := ?_) (by (simp only [List.getElem?_toArray, List.getElem?_cons_succ, List.getElem?_cons_zero]; rfl)) (by kernel_rfl) (by kernel_rfl) (by kernel_rfl) (by decide) (by exact fun _ _ _ h => h) ⟨hHeld.1, .inr hHeld.2⟩ (Or.inl ⟨by rfl, ?_⟩) ?_
    rotate_left
    · (intro w' _; go_simp <;> with_reducible rfl)
    try simp only [Act.put, List.setIfInBounds_toArray, List.set_cons_zero, List.set_cons_succ]
    refine wpAnyF_keep (i := 5) (v := ?_) (by (simp only [List.getElem?_toArray, List.getElem?_cons_succ, List.getElem?_cons_zero]; rfl)) (by kernel_rfl) (by kernel_rfl) (by kernel_rfl) (by decide) (by exact fun _ _ _ h => h) ⟨hHeld.1, .inr hHeld.2⟩ (Or.inl ⟨by rfl, ?_⟩) ?_
    rotate_left
    · (intro w' hSw; (try dsimp only at hSw); obtain ⟨hSa0, hSa1, hSa2, hSa3⟩ := hSw; go_simp <;> with_reducible rfl)
    try simp only [Act.put, List.setIfInBounds_toArray, List.set_cons_zero, List.set_cons_succ]
    refine wpAnyF_take (i := 6) (v := ?_) (by (simp only [List.getElem?_toArray, List.getElem?_cons_succ, List.getElem?_cons_zero]; rfl)) (by kernel_rfl) (by kernel_rfl) (by kernel_rfl) (by decide) (by exact fun _ _ _ h => h) ⟨hHeld.1, .inr hHeld.2⟩ (Or.inl ⟨by rfl, ?_⟩) ?_
    rotate_left
    · (intro w' _; go_simp <;> with_reducible rfl)
    try simp only [Act.put, List.setIfInBounds_toArray, List.set_cons_zero, List.set_cons_succ]
    refine wpAnyF_keep (i := 7) (v := ?_) (by (simp only [List.getElem?_toArray, List.getElem?_cons_succ, List.getElem?_cons_zero]; rfl)) (by kernel_rfl) (by kernel_rfl) (by kernel_rfl) (by decide) (by exact fun _ _ _ h => h) ⟨hHeld.1, .inr hHeld.2⟩ (Or.inl ⟨by rfl, ?_⟩) ?_
    rotate_left
    · (intro w' hSw; (try dsimp only at hSw); obtain ⟨hSa0, hSa1, hSa2, hSa3⟩ := hSw; go_simp <;> with_reducible rfl)
    try simp only [Act.put, List.setIfInBounds_toArray, List.set_cons_zero, List.set_cons_succ]
    refine wpAnyF_take (i := 8) (v := ?_) (by (simp only [List.getElem?_toArray, List.getElem?_cons_succ, List.getElem?_cons_zero]; rfl)) (by kernel_rfl) (by kernel_rfl) (by kernel_rfl) (by decide) (by exact fun _ _ _ h => h) ⟨hHeld.1, .inr hHeld.2⟩ (Or.inl ⟨by rfl, ?_⟩) ?_
    rotate_left
    · (intro w' _; go_simp <;> with_reducible rfl)
    try simp only [Act.put, List.setIfInBounds_toArray, List.set_cons_zero, List.set_cons_succ]
    refine wpAnyF_take (i := 9) (v := ?_) (by (simp only [List.getElem?_toArray, List.getElem?_cons_succ, List.getElem?_cons_zero]; rfl)) (by kernel_rfl) (by kernel_rfl) (by kernel_rfl) (by decide) (by exact fun _ _ _ h => h) ⟨hHeld.1, .inr hHeld.2⟩ (Or.inl ⟨by rfl, ?_⟩) ?_
    rotate_left
    · (intro w' _; go_simp <;> with_reducible rfl)
    try simp only [Act.put, List.setIfInBounds_toArray, List.set_cons_zero, List.set_cons_succ]
    refine wpAnyF_keep (i := 10) (v := ?_) (by (simp only [List.getElem?_toArray, List.getElem?_cons_succ, List.getElem?_cons_zero]; rfl)) (by kernel_rfl) (by kernel_rfl) (by kernel_rfl) (by decide) (by exact fun _ _ _ h => h) ⟨hHeld.1, .inr hHeld.2⟩ (Or.inl ⟨by rfl, ?_⟩) ?_
    rotate_left
    · (intro w' hSw; (try dsimp only at hSw); obtain ⟨hSa0, hSa1, hSa2, hSa3⟩ := hSw; go_simp <;> with_reducible rfl)
    try simp only [Act.put, List.setIfInBounds_toArray, List.set_cons_zero, List.set_cons_succ]
    refine wpAnyF_take (i := 11) (v := ?_) (by (simp only [List.getElem?_toArray, List.getElem?_cons_succ, List.getElem?_cons_zero]; rfl)) (by kernel_rfl) (by kernel_rfl) (by kernel_rfl) (by decide) (by exact fun _ _ _ h => h) ⟨hHeld.1, .inr hHeld.2⟩ (Or.inl ⟨by rfl, ?_⟩) ?_
    rotate_left
    · (intro w' _; go_simp <;> with_reducible rfl)
    try simp only [Act.put, List.setIfInBounds_toArray, List.set_cons_zero, List.set_cons_succ]
    refine wpAnyF_take (i := 12) (v := ?_) (by (simp only [List.getElem?_toArray, List.getElem?_cons_succ, List.getElem?_cons_zero]; rfl)) (by kernel_rfl) (by kernel_rfl) (by kernel_rfl) (by decide) (by exact fun _ _ _ h => h) ⟨hHeld.1, .inr hHeld.2⟩ (Or.inl ⟨by rfl, ?_⟩) ?_
    rotate_left
    · (intro w' _; go_simp <;> with_reducible rfl)
    try simp only [Act.put, List.setIfInBounds_toArray, List.set_cons_zero, List.set_cons_succ]
    refine wpAnyF_take (i := 13) (v := ?_) (by (simp only [List.getElem?_toArray, List.getElem?_cons_succ, List.getElem?_cons_zero]; rfl)) (by kernel_rfl) (by kernel_rfl) (by kernel_rfl) (by decide) (by exact fun _ _ _ h => h) ⟨hHeld.1, .inr hHeld.2⟩ (Or.inl ⟨by rfl, ?_⟩) ?_
    rotate_left
    · (intro w' _; go_simp <;> with_reducible rfl)
    try simp only [Act.put, List.setIfInBounds_toArray, List.set_cons_zero, List.set_cons_succ]
    refine wpAnyF_ready (rs := [14]) (by kernel_rfl) (by simp) ?_
    refine AllReadyF.last (by (simp only [List.getElem?_toArray, List.getElem?_cons_succ, List.getElem?_cons_zero]; rfl)) (by kernel_rfl) (fun K hK => ?_) AllReadyF.nil
    go_simp
    rw [HD1.out]
    go_at_call 146
    refine (must_no 1 _).mono ?_
    rintro e w3 ⟨rfl, rfl⟩
    exact ⟨rfl, .inr ⟨by omega, rfl, bW⟩⟩
end Go.Proofs.YtnnfkmjhaljplaaGreatDoor
