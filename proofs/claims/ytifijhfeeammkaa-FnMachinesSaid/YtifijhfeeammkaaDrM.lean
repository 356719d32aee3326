/- A drawn machine of the model's in memory, bit by bit. Plain lemmas. -/
import Derived.Test.YtifijhfeeammkaaGRun
import Derived.Test.YtifijhfeeammkaaGDrawO
import Derived.Test.YtifijhfeeammkaaDrawPk
namespace Go.Proofs.Ytifijhfeeammkaa
open Go.RowKit

theorem OwnTLine.keptB {w w' : World} {base : Nat} {v : Value} {t : List (List Ev)} {us : List Value} {row : Option Nat} (h : OwnTLine w base v t us) (hg : w.grownBy w' row) (h1 : ∀ b, v.ownBlock = some b → row ≠ some b) (h2 : ∀ u ∈ us, ∀ b, u.ownBlock = some b → row ≠ some b) : OwnTLine w' base v t us :=
  ⟨h.row.kept hg (own_sep h1), fun i hi => by
    obtain ⟨u, a1, a2, a3⟩ := h.rows i hi
    exact ⟨u, a1, a2.kept hg (own_sep (h2 u (List.mem_of_getElem? a1))), a3⟩, h.apart⟩
/-- A row of lines that is of no other kind. -/
theorem OwnTLine.usRow {w : World} {base : Nat} {v : Value} {t : List (List Ev)} {us : List Value} (h : OwnTLine w base v t us) {u : Value} (hu : u ∈ us) : ∃ n xs, w.ownsRow base 115 3 u n xs := by
  obtain ⟨i, hi⟩ := List.getElem?_of_mem hu
  obtain ⟨_, h1, _⟩ := h.at_ hi
  exact ⟨_, _, h1⟩
/-- A machine that is drawn: R the result's block, p its own block, which holds x0 and x1; v its rows, vm its memory. -/
structure DrM (w0 : World) (gS : Nat) (A : Option Addr) (c : Nat) (l : List Int) (R p k : Nat) (x0 x1 v vm : Value) (cs : List (List Ev)) (mem : List Cel) (us : List Value) (w : World) : Prop where
  res : Bk w R #[.slice none 0 0, .slice none 0 0] 27
  box : Bk w p #[x0, x1] 27
  cs : OwnTLine w (R + 1) v cs us
  mem : w.ownsRow (R + 1) 120 2 vm mem.length (cels mem)
  src : Src w gS A c l k
  old : w0.grownBy w (some gS)
  nums : gS < w0.heap.size ∧ w0.heap.size = R ∧ R < p
section
variable {w0 w w' : World} {gS : Nat} {A : Option Addr} {c : Nat} {l : List Int} {R p k k' : Nat} {x0 x1 v vm v' vm' : Value} {cs cs' : List (List Ev)} {mem : List Cel} {us us' : List Value}
theorem DrM.below (h : DrM w0 gS A c l R p k x0 x1 v vm cs mem us w) (hb : Below w.heap.size w w') : DrM w0 gS A c l R p k x0 x1 v vm cs mem us w' :=
  ⟨h.res.kept hb, h.box.kept hb, h.cs.below hb, own_below h.mem hb (Nat.le_refl _), h.src.below hb h.src.lt, h.old.trans (grown_of_below _ hb), h.nums⟩
theorem DrM.alloc (h : DrM w0 gS A c l R p k x0 x1 v vm cs mem us w) (o : Obj) : DrM w0 gS A c l R p k x0 x1 v vm cs mem us (w.alloc o) := h.below ((Below.refl _ _).alloc (Nat.le_refl _) _)
theorem DrM.drew (h : DrM w0 gS A c l R p k x0 x1 v vm cs mem us w) : DrM w0 gS A c l R p k x0 x1 v vm cs mem us w.drew := h.below (Below.refl _ _).drew
theorem DrM.drawn (h : DrM w0 gS A c l R p k x0 x1 v vm cs mem us w) (hs : Src w' gS A c l k') (hg : w.grownBy w' (some gS)) : DrM w0 gS A c l R p k' x0 x1 v vm cs mem us w' := by
  obtain ⟨n1, n2, n3⟩ := h.nums
  exact ⟨h.res.grown hg (by simp; omega), h.box.grown hg (by simp; omega), h.cs.kept hg (fun b e => by simp at e; omega), h.mem.kept hg (own_sep fun b hb e => by have := h.mem.lt b hb; simp at e; omega), hs, h.old.trans hg, h.nums⟩
theorem DrM.store (h : DrM w0 gS A c l R p k x0 x1 v vm cs mem us w) (i : Nat) (x : Value) : Bk (w.setCell ⟨p, i, none⟩ x) p (#[x0, x1].setIfInBounds i x) 27 ∧ ∀ y0 y1, #[x0, x1].setIfInBounds i x = #[y0, y1] → DrM w0 gS A c l R p k y0 y1 v vm cs mem us (w.setCell ⟨p, i, none⟩ x) := by
  obtain ⟨n1, n2, n3⟩ := h.nums
  have hb := h.box.set_ i x
  refine ⟨hb, fun y0 y1 e => ⟨h.res.far (p := ⟨p, i, none⟩) (by simp only; omega) _, by rw [← e]; exact hb, h.cs.keptB (grown_set w p i x) (fun b hb e => ?_) (fun u hu b hb e => ?_), h.mem.kept (grown_set w p i x) (own_sep fun b hb e => ?_), h.src.below (B := gS + 1) ((Below.refl _ _).setCell (by simp only; omega) _) (Nat.lt_succ_self _), grown_new (p := ⟨p, i, none⟩) (by simp only; omega) _ h.old, h.nums⟩⟩
  · exact own_box h.cs.row h.box (by decide) (hb.trans e.symm)
  · obtain ⟨n, xs, hr⟩ := h.cs.usRow hu
    exact own_box hr h.box (by decide) (hb.trans e.symm)
  · exact own_box h.mem h.box (by decide) (hb.trans e.symm)
theorem DrM.grewM {y : Cel} (h : DrM w0 gS A c l R p k x0 x1 v vm cs mem us w) (ho : w'.ownsRow (R + 1) 120 2 vm' (mem.length + 1) (cels mem ++ cels [y])) (hg : w.grownBy w' vm.ownBlock) : DrM w0 gS A c l R p k x0 x1 v vm' cs (mem ++ [y]) us w' := by
  obtain ⟨n1, n2, n3⟩ := h.nums
  have hlo := fun b (hb : vm.ownBlock = some b) => (h.mem.lt b hb).1
  have hB : Below (gS + 1) w w' := grown_below h.mem hg (by have := h.res.lt; omega) (by omega)
  refine ⟨h.res.grown hg (fun e => by have := hlo R e.symm; omega), h.box.grown hg (fun e => own_box h.mem h.box (by decide) e.symm), h.cs.keptB hg (fun b hb => ?_) (fun u hu b hb => ?_), by rw [List.length_append, cels_append]; exact ho, h.src.below hB (Nat.lt_succ_self _), h.old.andThen hg (fun b hb => .inl (by have := hlo b hb; omega)), h.nums⟩
  · exact fun e => own_types h.cs.row h.mem (by decide) b hb e
  · obtain ⟨n, xs, hr⟩ := h.cs.usRow hu
    exact fun e => own_types hr h.mem (by decide) b hb e
theorem DrM.grewC {u : Value} {es : List Ev} (h : DrM w0 gS A c l R p k x0 x1 v vm cs mem us w) (hu : w.ownsRow (R + 1) 115 3 u es.length (evs es)) (hf : ∀ b, u.ownBlock = some b → v.ownBlock ≠ some b ∧ ∀ (i : Nat) (u' : Value), us[i]? = some u' → u'.ownBlock ≠ some b)
    (ho : w'.ownsRow (R + 1) 112 1 v' (cs.length + 1) (us ++ [u])) (hg : w.grownBy w' v.ownBlock) (hat : v'.ownBlock = v.ownBlock ∨ v'.ownBlock = some w.heap.size) : DrM w0 gS A c l R p k x0 x1 v' vm (cs ++ [es]) mem (us ++ [u]) w' := by
  obtain ⟨n1, n2, n3⟩ := h.nums
  have hlo := fun b (hb : v.ownBlock = some b) => (h.cs.row.lt b hb).1
  have hB : Below (gS + 1) w w' := grown_below h.cs.row hg (by have := h.res.lt; omega) (by omega)
  refine ⟨h.res.grown hg (fun e => by have := hlo R e.symm; omega), h.box.grown hg (fun e => own_box h.cs.row h.box (by decide) e.symm), h.cs.push hu hf ho hg hat, h.mem.kept hg (own_sep fun b hb => fun e => own_types h.mem h.cs.row (by decide) b hb e), h.src.below hB (Nat.lt_succ_self _), h.old.andThen hg (fun b hb => .inl (by have := hlo b hb; omega)), h.nums⟩
theorem DrM.noMem (h : DrM w0 gS A c l R p k x0 x1 v vm cs mem us w) : DrM w0 gS A c l R p k x0 x1 v (.slice none 0 0) cs [] us w := ⟨h.res, h.box, h.cs, World.ownsRow_nil _ _ _ _, h.src, h.old, h.nums⟩
theorem DrM.newC (h : DrM w0 gS A c l R p k x0 x1 v vm cs mem us w) (hc : OwnTLine w (R + 1) v' cs' us') : DrM w0 gS A c l R p k x0 x1 v' vm cs' mem us' w := ⟨h.res, h.box, hc, h.mem, h.src, h.old, h.nums⟩
/-- A cell of the first line is another one. -/
theorem DrM.line {gv n d b0 q cu : Nat} (h : DrM w0 gS A c l R p k x0 x1 (.slice (some ⟨gv, 0, none⟩) n d) vm cs mem us w) (hu : us[0]? = some (.slice (some ⟨b0, 0, none⟩) q cu)) (j : Nat) (x : Value) (l' : List Ev) (hl : l'.length = q) (he : ∀ h0 : 0 < cs.length, (evs cs[0]).set j x = evs l') :
    DrM w0 gS A c l R p k x0 x1 (.slice (some ⟨gv, 0, none⟩) n d) vm (cs.set 0 l') mem us (w.setCell ⟨b0, j, none⟩ x) := by
  subst hl
  obtain ⟨n1, n2, n3⟩ := h.nums
  obtain ⟨hi, hr, _⟩ := h.cs.at_ hu
  have hb0 := (hr.lt b0 rfl).1
  have hql : cs[0].length = l'.length := by
    rcases own_shape hr with ⟨_, _, e⟩
    simp only [Value.slice.injEq] at e
    exact e.2.1.symm
  rw [hql] at hr
  have hst := (hr.stored j x).1
  rw [he hi] at hst
  have hg := grown_set w b0 j x
  refine ⟨h.res.far (p := ⟨b0, j, none⟩) (by simp only; omega) _, h.box.grown hg (fun e => own_box hr h.box (by decide) e.symm), h.cs.turnAt hu hg hst, h.mem.kept hg (own_sep fun b hb e => own_types h.mem hr (by decide) b hb e), h.src.below (B := gS + 1) ((Below.refl _ _).setCell (by simp only; omega) _) (Nat.lt_succ_self _), grown_new (p := ⟨b0, j, none⟩) (by simp only; omega) _ h.old, h.nums⟩
/-- What is told of a machine that is drawn. -/
def MacPost (w : World) (g : Nat) (A : Option Addr) (c : Nat) (l : List Int) (k : Nat) (e : Ending) (w' : World) : Prop :=
  ∃ (m : Mac) (A1 : Option Addr) (c1 : Nat) (A2 : Option Addr) (c2 : Nat) (us : List Value), e = .returned (macV A1 m.cs.length c1 A2 m.mem.length c2) ∧ OwnMac w' w.heap.size (.slice A1 m.cs.length c1) (.slice A2 m.mem.length c2) m us ∧ (1 ≤ m.cs.length ∧ m.cs.length ≤ 5 ∧ 1 ≤ (m.cs.getD 0 []).length ∧ ∀ x ∈ m.cs, x.length ≤ 20) ∧ m.mem.length ≤ 40 ∧ Went w g A c l k 200 w'
theorem DrM.post {A1 A2 : Option Addr} {c1 c2 n1 n2 k0 : Nat} (h : DrM w0 gS A c l R p k x0 x1 (.slice A1 n1 c1) (.slice A2 n2 c2) cs mem us w) (hn1 : n1 = cs.length) (hn2 : n2 = mem.length) (hc : 1 ≤ cs.length ∧ cs.length ≤ 5 ∧ 1 ≤ (cs.getD 0 []).length ∧ ∀ x ∈ cs, x.length ≤ 20) (hm : mem.length ≤ 40) (hk : k ≤ k0 + 200) (y0 y1 : Value) :
    MacPost w0 gS A c l k0 (.returned (macV A1 n1 c1 A2 n2 c2)) ((w.setCell ⟨R, 0, none⟩ y0).setCell ⟨R, 1, none⟩ y1) := by
  obtain ⟨g1, g2, g3⟩ := h.nums
  subst hn1 hn2
  refine ⟨⟨cs, mem⟩, A1, c1, A2, c2, us, rfl, ?_, hc, hm, k, hk, ?_, ?_⟩
  · refine OwnMac.mono (base := R + 1) (OwnMac.set_ (OwnMac.set_ ⟨h.cs, h.mem, fun b hb => ⟨own_types h.mem h.cs.row (by decide) b hb, fun u hu => ?_⟩⟩ (Nat.lt_succ_self R) _) (Nat.lt_succ_self R) _) (by omega)
    obtain ⟨n, xs, hr⟩ := h.cs.usRow hu
    exact own_types h.mem hr (by decide) b hb
  · exact h.src.below (B := gS + 1) (((Below.refl _ _).setCell (by simp only; omega) _).setCell (by simp only; omega) _) (Nat.lt_succ_self _)
  · exact grown_new (p := ⟨R, 1, none⟩) (by simp only; omega) _ (grown_new (p := ⟨R, 0, none⟩) (by simp only; omega) _ h.old)
end
end Go.Proofs.Ytifijhfeeammkaa
