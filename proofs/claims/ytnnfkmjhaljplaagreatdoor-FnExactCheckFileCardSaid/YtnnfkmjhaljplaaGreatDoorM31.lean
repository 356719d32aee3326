/- What the laws' walks rest upon, part 31. -/
import Derived.Test.YtnnfkmjhaljplaaGreatDoorM30
namespace Go.Proofs.YtnnfkmjhaljplaaGreatDoor
open Go.RowKit
/-- What is told as dead leads nowhere. -/
def DeadOk (t : List (List Ev)) (os : List Wls) (X : List Bool) : Prop := X.length = 6561 ∧ ∀ p, okQ t p → X[keyW p 0]? = some true → onW t os (evsT t) p = none
section
variable {t : List (List Ev)} {os : List Wls} {X : List Bool} {q : List Nat}
theorem DeadOk.zero : DeadOk t os (List.replicate 6561 false) := ⟨List.length_replicate, fun p _ h => by
  rw [List.getElem?_replicate] at h
  split at h
  · simp at h
  · simp at h⟩
theorem okQ_eight (hj : JdgOk t os) (h : okQ t q) : ∀ x ∈ q, x ≤ 8 := fun x hx => by
  obtain ⟨i, hi, rfl⟩ := List.getElem_of_mem hx
  have h1 := h.2 i
  have h2 := hj.len i
  rw [List.getD_eq_getElem?_getD, List.getElem?_eq_getElem hi] at h1
  simp only [Option.getD_some] at h1
  omega
theorem key_small (hj : JdgOk t os) (h : okQ t q) : keyW q 0 < 6561 := by
  have h1 := keyW_lt q 0 (okQ_eight hj h)
  have h2 : 9 ^ q.length ≤ 9 ^ 4 := Nat.pow_le_pow_right (by omega) (by rw [h.1]; exact hj.few)
  have h3 : (9 : Nat) ^ 4 = 6561 := rfl
  omega
theorem DeadOk.die (hj : JdgOk t os) (h : DeadOk t os X) (hq : okQ t q) (hn : onW t os (evsT t) q = none) : DeadOk t os (X.set (keyW q 0) true) := by
  refine ⟨by rw [List.length_set]; exact h.1, fun p hp hx => ?_⟩
  by_cases e : keyW q 0 = keyW p 0
  · obtain ⟨e2, _⟩ := keyW_inj q p 0 0 (by rw [hq.1, hp.1]) (okQ_eight hj hq) (okQ_eight hj hp) e
    rw [← e2]; exact hn
  · rw [List.getElem?_set_ne e] at hx
    exact h.2 p hp hx
end
theorem blk_of {D z n c : Nat} (h : (Value.slice (some ⟨D, 0, none⟩) n c).ownBlock = some z) : D = z := by simpa [Value.ownBlock] using h
/-- The search in memory. -/
structure FAt (t : List (List Ev)) (os : List Wls) (A A' : Option Addr) (c c' n0 b D G B : Nat) (w0 : World) (X : List Bool) (q r : List Nat) (v : Value) (w : World) : Prop where
  box : Bk w b #[.slice A t.length c, .slice A' os.length c', .slice (some ⟨D, 0, none⟩) 6561 6561, v, .int .i64 (evsT t : Nat)] 303
  dead : w.ownsRow n0 4 1 (.slice (some ⟨D, 0, none⟩) 6561 6561) 6561 (X.map Value.bool)
  done : w.ownsRow n0 2 1 (.slice (some ⟨G, 0, none⟩) t.length t.length) t.length ((intR q).map (Value.int .i64))
  row : w.ownsRow B 2 1 v r.length ((intR r).map (Value.int .i64))
  old : Below n0 w0 w
  lo : n0 ≤ b ∧ n0 ≤ D ∧ n0 ≤ G ∧ b < B ∧ D < B ∧ G < B ∧ B ≤ w.heap.size ∧ b ≠ D ∧ b ≠ G ∧ D ≠ G
section
variable {t : List (List Ev)} {os : List Wls} {A A' Av : Option Addr} {c c' cv n0 b D G B : Nat} {w0 w w' : World} {X : List Bool} {q q' r : List Nat} {v v' : Value}
theorem FAt.below (h : FAt t os A A' c c' n0 b D G B w0 X q r v w) (hb : Below w.heap.size w w') : FAt t os A A' c c' n0 b D G B w0 X q r v w' := by
  have hs := hb.size
  have hl := h.lo
  exact ⟨h.box.kept hb, own_below h.dead hb (Nat.le_refl _), own_below h.done hb (Nat.le_refl _), own_below h.row hb (Nat.le_refl _), h.old.trans (hb.mono (by omega)), by omega⟩
/-- A count turned. -/
theorem FAt.turn (h : FAt t os A A' c c' n0 b D G B w0 X q r v w) (i : Nat) (u : Value) (hq : ((intR q).map (Value.int .i64)).set i u = (intR q').map (Value.int .i64)) : FAt t os A A' c c' n0 b D G B w0 X q' r v (w.setCell ⟨G, i, none⟩ u) := by
  have hl := h.lo
  have hg := grown_set w G i u
  have hs := hg.size
  have hd := (h.done.stored i u).1
  rw [hq] at hd
  exact ⟨h.box.far (p := ⟨G, i, none⟩) (by show b ≠ G; omega) u, h.dead.kept hg (own_sep fun z hz e => by have h1 := blk_of hz; injection e with e; omega), hd, ownsRow_setCell_below h.row (a := ⟨G, i, none⟩) (by show G < B; omega) u, h.old.setCell (p := ⟨G, i, none⟩) (by show n0 ≤ G; omega) u, by omega⟩
/-- A core put behind the row. -/
theorem FAt.push (h : FAt t os A A' c c' n0 b D G B w0 X q r v w) {r' : List Nat} (ho : w'.ownsRow B 2 1 v' r'.length ((intR r').map (Value.int .i64))) (hg : w.grownBy w' v.ownBlock) : FAt t os A A' c c' n0 b D G B w0 X q r' v' (w'.setCell ⟨b, 3, none⟩ v') := by
  have hl := h.lo
  have hg2 := grown_set w' b 3 v'
  have hs := hg.size
  have hs2 := hg2.size
  have hr := fun z hz => (h.row.lt z hz).1
  have hx := (h.box.grown hg (own_apart h.row b (.inl (by omega)))).set_ 3 v'
  refine ⟨by simpa using hx, (h.dead.kept hg (own_sep fun z hz e => by have h1 := blk_of hz; have := hr z e; omega)).kept hg2 (own_sep fun z hz e => by have h1 := blk_of hz; injection e with e; omega),
    (h.done.kept hg (own_sep fun z hz e => by have h1 := blk_of hz; have := hr z e; omega)).kept hg2 (own_sep fun z hz e => by have h1 := blk_of hz; injection e with e; omega),
    ownsRow_setCell_below ho (a := ⟨b, 3, none⟩) (by show b < B; omega) v', (h.old.trans (grown_below h.row hg (B := n0) (by omega) (by omega))).setCell (p := ⟨b, 3, none⟩) (by show n0 ≤ b; omega) v', by omega⟩
/-- The last one taken away. -/
theorem FAt.pop {k : Nat} (h : FAt t os A A' c c' n0 b D G B w0 X q (r ++ [k]) (.slice Av (r.length + 1) cv) w) : FAt t os A A' c c' n0 b D G B w0 X q r (.slice Av r.length cv) (w.setCell ⟨b, 3, none⟩ (.slice Av r.length cv)) := by
  have hl := h.lo
  have ho := h.row
  rw [List.length_append, List.length_singleton] at ho
  have hp := own_pop ho (q := r.length) (by omega)
  have e : ((intR (r ++ [k])).map (Value.int .i64)).take r.length = (intR r).map (Value.int .i64) := by
    unfold intR
    rw [List.map_append, List.map_append, List.take_append_of_le_length (by simp), List.take_of_length_le (by simp)]
  rw [e] at hp
  have hg2 := grown_set w b 3 (.slice Av r.length cv)
  have hs2 := hg2.size
  have hx := h.box.set_ 3 (.slice Av r.length cv)
  exact ⟨by simpa using hx, h.dead.kept hg2 (own_sep fun z hz e => by have h1 := blk_of hz; injection e with e; omega), h.done.kept hg2 (own_sep fun z hz e => by have h1 := blk_of hz; injection e with e; omega),
    ownsRow_setCell_below hp (a := ⟨b, 3, none⟩) (by show b < B; omega) _, h.old.setCell (p := ⟨b, 3, none⟩) (by show n0 ≤ b; omega) _, by omega⟩
/-- A place told as dead. -/
theorem FAt.die (h : FAt t os A A' c c' n0 b D G B w0 X q r v w) (i : Nat) : FAt t os A A' c c' n0 b D G B w0 (X.set i true) q r v (w.setCell ⟨D, i, none⟩ (.bool true)) := by
  have hl := h.lo
  have hg := grown_set w D i (.bool true)
  have hs := hg.size
  have hd := (h.dead.stored i (.bool true)).1
  have e : (X.map Value.bool).set i (.bool true) = (X.set i true).map Value.bool := by rw [List.map_set]
  rw [e] at hd
  exact ⟨h.box.far (p := ⟨D, i, none⟩) (by show b ≠ D; omega) _, hd, h.done.kept hg (own_sep fun z hz e => by have h1 := blk_of hz; injection e with e; omega), ownsRow_setCell_below h.row (a := ⟨D, i, none⟩) (by show D < B; omega) _, h.old.setCell (p := ⟨D, i, none⟩) (by show n0 ≤ D; omega) _, by omega⟩
theorem FAt.rows (h : FAt t os A A' c c' n0 b D G B w0 X q r v w) (hT : RdT w0 n0 A t) (hO : RdW w0 n0 A' os) : RdT w w.heap.size A t ∧ RdW w w.heap.size A' os := by
  have hl := h.lo
  exact ⟨(hT.below h.old).more (by omega), (hO.below h.old).more (by omega)⟩
theorem FAt.at_done (h : FAt t os A A' c c' n0 b D G B w0 X q r v w) (hq : q.length = t.length) {i : Nat} (hi : i < t.length) : w.cell? ⟨G, i, none⟩ = some (.int .i64 (q.getD i 0 : Nat)) := by
  rw [h.done.cellAt i (by omega)]
  have hil : i < (intR q).length := by rw [intR_len]; omega
  rw [List.getElem?_map, List.getElem?_eq_getElem hil, intR_get]
  rfl
theorem FAt.at_dead (h : FAt t os A A' c c' n0 b D G B w0 X q r v w) {i : Nat} {x : Bool} (hi : i < 6561) (hx : X[i]? = some x) : w.cell? ⟨D, i, none⟩ = some (.bool x) := by
  rw [h.dead.cellAt i (by omega), List.getElem?_map, hx]
  rfl
end
/-- What a search tells. -/
def FndPost (t : List (List Ev)) (os : List Wls) (A A' : Option Addr) (c c' n0 b D G B : Nat) (w0 : World) (q r : List Nat) (e : Ending) (w' : World) : Prop :=
  ∃ X' q' v', e = .returned (.bool (onW t os (evsT t) q).isSome) ∧ DeadOk t os X' ∧ FAt t os A A' c c' n0 b D G B w0 X' q' (r ++ (onW t os (evsT t) q).getD []) v' w' ∧ (onW t os (evsT t) q = none → q' = q)
end Go.Proofs.YtnnfkmjhaljplaaGreatDoor
