/- What the laws' walks rest upon, part 30. -/
import Derived.Test.YtnnfkmjhaljplaaGreatDoorM28
import Derived.Test.YtnnfkmjhaljplaaGreatDoorM24
import Derived.WideKeyArr
import Derived.ScopeJumps
import Derived.WalkMore
import Derived.Test.YtnnfkmjhaljplaaGreatDoorM29
namespace Go.Proofs.YtnnfkmjhaljplaaGreatDoor
open Go.RowKit Go.Maps
theorem arrQ : Go.WideMaps.ArrKey Tryz.prog 126 2 4 := ⟨by kernel_rfl, by kernel_rfl, by kernel_rfl, by kernel_rfl⟩
theorem lawQ : Keyed Tryz.prog 126 := Keyed.of_law arrQ.law
theorem zeroBl (w : World) : (zeroValue 4).run Tryz.prog w = .ok (.bool false) w := by kernel_rfl
theorem pos_of {n : Nat} (h : Nat.ble 1 n = true) : ∃ m, n = m + 1 := ⟨n - 1, by have := Nat.le_of_ble_eq_true h; omega⟩
theorem types_pos : ∃ m, Tryz.prog.types.size = m + 1 := pos_of (by kernel_rfl)
theorem lits_int (m : Nat) {n : Int} (h : (Lit.int .i64 n).wf = true) : Tryz.prog.keyLits (m + 1) 2 [.int .i64 n] = some [.int .i64 n] := by
  unfold Program.keyLits
  rw [Tryz.underlying2]
  simp [h]
theorem lits_arr (m : Nat) {a b c d : Int} (ha : (Lit.int .i64 a).wf = true) (hb : (Lit.int .i64 b).wf = true) (hc : (Lit.int .i64 c).wf = true) (hd : (Lit.int .i64 d).wf = true) :
    Tryz.prog.keyLits (m + 1 + 1) 126 [.int .i64 a, .int .i64 b, .int .i64 c, .int .i64 d] = some [.int .i64 a, .int .i64 b, .int .i64 c, .int .i64 d] := by
  unfold Program.keyLits
  rw [arrQ.hu]
  have h1 := arrQ.one
  have h2 := arrQ.size
  simp only [h1, h2]
  have r : List.range 4 = [0, 1, 2, 3] := rfl
  simp [r, lits_int m ha, lits_int m hb, lits_int m hc, lits_int m hd]
theorem wf_small {n : Nat} (h : n ≤ 1000) : (Lit.int .i64 (n : Int)).wf = true := by
  have h1 : IntKind.i64.min = -9223372036854775808 := by decide
  have h2 : IntKind.i64.max = 9223372036854775807 := by decide
  show (decide (IntKind.i64.min ≤ (n : Int)) && decide ((n : Int) ≤ IntKind.i64.max)) = true
  rw [h1, h2, Bool.and_eq_true, decide_eq_true_eq, decide_eq_true_eq]
  omega
@[irreducible] noncomputable def litQ (q : List Nat) : Lit := (keyOf Tryz.prog 126 (.agg (dnQ q))).getD .nil
theorem keyQ {q : List Nat} (h : ∀ i, q.getD i 0 ≤ 1000) : keyOf Tryz.prog 126 (.agg (dnQ q)) = some (litQ q) := by
  have key : ∃ l, keyOf Tryz.prog 126 (.agg (dnQ q)) = some l := by
    unfold keyOf
    rw [arrQ.hu]
    have hk : Tryz.prog.keyType 126 = true := arrQ.keyType types_pos
    have hf : (Value.agg (dnQ q)).formed Tryz.prog 126 = true := by
      unfold dnQ Value.formed
      rw [arrQ.hu]
      simp only [arrQ.size]
      rfl
    simp only [hk, hf, Bool.and_true, if_true]
    obtain ⟨m, hm⟩ := types_pos
    rw [hm]
    have := lits_arr m (wf_small (h 0)) (wf_small (h 1)) (wf_small (h 2)) (wf_small (h 3))
    refine ⟨.string (keyBytes [.int .i64 (q.getD 0 0 : Nat), .int .i64 (q.getD 1 0 : Nat), .int .i64 (q.getD 2 0 : Nat), .int .i64 (q.getD 3 0 : Nat)]), ?_⟩
    show Option.map _ (Tryz.prog.keyLits (m + 1 + 1) 126 [.int .i64 (q.getD 0 0 : Nat), .int .i64 (q.getD 1 0 : Nat), .int .i64 (q.getD 2 0 : Nat), .int .i64 (q.getD 3 0 : Nat)]) = _
    rw [this]
    rfl
  obtain ⟨l, hl⟩ := key
  unfold litQ
  rw [hl]
  rfl
theorem litQ_inj {p q : List Nat} (hp : ∀ i, p.getD i 0 ≤ 1000) (hq : ∀ i, q.getD i 0 ≤ 1000) (hl : p.length = q.length) (h4 : q.length ≤ 4) (h : litQ p = litQ q) : p = q := by
  have e := lawQ.inj (keyQ hp) (by rw [h]; exact keyQ hq)
  have e2 : dnQ p = dnQ q := by injection e
  apply List.ext_getElem hl
  intro i h1 h2
  have a := dnQ_get p (show i < 4 by omega)
  have b := dnQ_get q (show i < 4 by omega)
  rw [e2, b] at a
  simp only [Option.some.injEq, Value.int.injEq, true_and] at a
  rw [List.getD_eq_getElem?_getD, List.getD_eq_getElem?_getD, List.getElem?_eq_getElem h1, List.getElem?_eq_getElem h2] at a
  simp only [Option.getD_some] at a
  omega
abbrev zB : DataW Value := .held (.bool false)
/-- What was tried lies in the map in block M. -/
def TrdM (w : World) (M n N : Nat) (T : List (List Nat)) : Prop :=
  ∃ D : DataW Value, w.ownsMap Tryz.prog 126 rdH M n D ∧ ∀ p : List Nat, p.length = N → (∀ i, p.getD i 0 ≤ 8) → D.atKey (litQ p) zB = .held (.bool (decide (p ∈ T)))
section
variable {w w' : World} {M n N : Nat} {T : List (List Nat)}
theorem TrdM.other {row : Option Nat} (h : TrdM w M n N T) (hg : w.grownBy w' row) (hne : some M ≠ row) : TrdM w' M n N T := by
  obtain ⟨D, h1, h2⟩ := h
  exact ⟨D, h1.kept hg hne, h2⟩
theorem TrdM.lt (h : TrdM w M n N T) : M < w.heap.size := by obtain ⟨D, h1, _⟩ := h; exact h1.lt
theorem TrdM.below (h : TrdM w M n N T) (hb : Below w.heap.size w w') : TrdM w' M n N T :=
  h.other (row := none) ⟨hb.os, hb.tape, hb.output, hb.size, fun k hk _ => hb.block k hk⟩ (by simp)
theorem TrdM.alloc (h : TrdM w M n N T) (o : Obj) : TrdM (w.alloc o) M n N T := h.below ((Below.refl _ _).alloc (Nat.le_refl _) _)
theorem TrdM.cell (h : TrdM w M n N T) {a : Addr} (ha : M ≠ a.block) (u : Value) : TrdM (w.setCell a u) M n N T := by
  obtain ⟨D, h1, h2⟩ := h
  exact ⟨D, h1.setCell ha u, h2⟩
theorem TrdM.made (w : World) (N : Nat) : TrdM (w.alloc (.map #[] 0)) w.heap.size 0 N [] := ⟨.map [], World.ownsMap_made _ _ _ _, fun p _ _ => by simp [DataW.atKey]⟩
/-- Was it tried? -/
theorem TrdM.look (h : TrdM w M n N T) {q : List Nat} (hl : q.length = N) (h8 : ∀ i, q.getD i 0 ≤ 8) : (Instr.lookup 355 (.map (some M)) (.agg (dnQ q)) false).run Tryz.prog w = .ok (.bool (decide (q ∈ T))) w := by
  obtain ⟨D, h1, h2⟩ := h
  obtain ⟨v, ps, hrun, hv⟩ := h1.lookup (t := 355) lawQ Tryz.underlying355 (zeroBl w) (zd := zB) (zp := []) rfl (keyQ fun i => Nat.le_trans (h8 i) (by omega))
  rw [h2 q hl h8] at hv
  simp only [rdH, Option.some.injEq, Prod.mk.injEq] at hv
  rw [hrun, DataW.held.inj hv.1]
end
theorem keyLQ (q : List Nat) (h : ∀ i, q.getD i 0 ≤ 8) : Go.WideAt.IsKeyLit (litQ q) := by
  have hk := keyQ (q := q) fun i => Nat.le_trans (h i) (by omega)
  exact lawQ.key hk
/-- One more. -/
theorem trd_put {D : DataW Value} {N : Nat} {T : List (List Nat)} {q : List Nat} (hD : IsMap D) (hl : q.length = N) (h4 : N ≤ 4) (h8 : ∀ i, q.getD i 0 ≤ 8)
    (h : ∀ p : List Nat, p.length = N → (∀ i, p.getD i 0 ≤ 8) → D.atKey (litQ p) zB = .held (.bool (decide (p ∈ T)))) :
    ∀ p : List Nat, p.length = N → (∀ i, p.getD i 0 ≤ 8) → (D.put (litQ q) (.held (.bool true))).atKey (litQ p) zB = .held (.bool (decide (p ∈ q :: T))) := by
  intro p hp hp8
  by_cases e : p = q
  · subst e
    rw [atKey_put_same hD (keyLQ p hp8)]
    simp
  · rw [atKey_put_other (fun hh => e (litQ_inj (fun i => Nat.le_trans (hp8 i) (by omega)) (fun i => Nat.le_trans (h8 i) (by omega)) (by rw [hp, hl]) (by omega) hh)), h p hp hp8]
    have : decide (p ∈ q :: T) = decide (p ∈ T) := decide_eq_decide.2 (by simp [e])
    rw [this]
end Go.Proofs.YtnnfkmjhaljplaaGreatDoor
namespace Go.Proofs.YtnnfkmjhaljplaaGreatDoor
open Go
/-- As Q; by a goto to label l: J l. -/
def labels (J : Nat → Act → World → Prop) (Q : Exit → Act → World → Prop) : Exit → Act → World → Prop
  | .goto l, a, w => J l a w
  | e, a, w => Q e a w
/-- At some lower number. -/
def lower (J : Nat → Nat → Act → World → Prop) (n : Nat) : Nat → Act → World → Prop := fun l a w => ∃ m, m < n ∧ J l m a w
def someN (J : Nat → Nat → Act → World → Prop) : Nat → Act → World → Prop := fun l a w => ∃ m, J l m a w
section
variable {P : Program} {a : Act} {w : World} {Q : Exit → Act → World → Prop}
theorem labels_mono {c : Code} {J J' : Nat → Act → World → Prop} (h : c.wp P (labels J Q) a w) (hj : ∀ l a w, J l a w → J' l a w) : c.wp P (labels J' Q) a w :=
  Go.wp_mono h fun e a w hq => by
    cases e with
    | goto l => exact hj l a w hq
    | normal => exact hq
    | exit id => exact hq
    | ret => exact hq
    | panic ch => exact hq
    | outgrown => exact hq
theorem lower_mono {J : Nat → Nat → Act → World → Prop} {m n : Nat} (h : m ≤ n) (l : Nat) (a : Act) (w : World) (hj : lower J m l a w) : lower J n l a w := by
  obtain ⟨k, hk, hh⟩ := hj
  exact ⟨k, by omega, hh⟩
theorem lower_some {J : Nat → Nat → Act → World → Prop} {n : Nat} (l : Nat) (a : Act) (w : World) (hj : lower J n l a w) : someN J l a w := by
  obtain ⟨k, _, hh⟩ := hj
  exact ⟨k, hh⟩
theorem wp_scope_labels {c r0 r1 r2 : Code} (J : Nat → Nat → Act → World → Prop) (h0 : findLabel c 0 = some (.seq .skip r0)) (h1 : findLabel c 1 = some (.seq .skip r1)) (h2 : findLabel c 2 = some (.seq .skip r2)) (hJ : ∀ l n a w, J l n a w → l = 0 ∨ l = 1 ∨ l = 2)
    (p2 : ∀ n a w, J 2 n a w → r2.wp P (labels (lower J n) Q) a w)
    (p1 : ∀ n a w, J 1 n a w → r1.wp P (labels (lower J n) Q) a w)
    (p0 : (∀ N n a w, n ≤ N → J 2 n a w → r2.wp P (labels (lower J N) Q) a w) → ∀ n a w, J 0 n a w → r0.wp P (labels (lower J n) Q) a w)
    (first : (∀ n a w, J 0 n a w → r0.wp P (labels (someN J) Q) a w) → c.wp P (labels (someN J) Q) a w) : (Code.scope c).wp P Q a w := by
  have q2 : ∀ N n a w, n ≤ N → J 2 n a w → r2.wp P (labels (lower J N) Q) a w := fun N n a w hn hj => labels_mono (p2 n a w hj) fun l a w => lower_mono hn l a w
  have p0 := p0 q2
  have first := first fun n a w hj => labels_mono (p0 n a w hj) fun l a w => lower_some l a w
  have sk : ∀ {r : Code} {Q : Exit → Act → World → Prop} {a : Act} {w : World}, r.wp P Q a w → (Code.seq .skip r).wp P Q a w := fun h => wp_seq (wp_skip h)
  have pass : ∀ l n a w, J l n a w → ∃ r, findLabel c l = some r ∧ r.wp P (labels (lower J n) Q) a w := by
    intro l n a w hj
    rcases hJ l n a w hj with rfl | rfl | rfl
    · exact ⟨_, h0, sk (p0 n a w hj)⟩
    · exact ⟨_, h1, sk (p1 n a w hj)⟩
    · exact ⟨_, h2, sk (p2 n a w hj)⟩
  intro b k cs
  have key : ∀ n l a w r, J l n a w → findLabel c l = some r → ∃ e a' w', Q e a' w' ∧ Arrives P (lone (b.at a (.code r :: .inScope c :: k)) cs w) b k cs e a' w' := by
    intro n
    induction n using Nat.strongRecOn with
    | _ n ih =>
      intro l a w r hj hr
      obtain ⟨r', hr', hp⟩ := pass l n a w hj
      rw [hr] at hr'
      cases hr'
      obtain ⟨e, a₁, w₁, hq, harr⟩ := hp b (.inScope c :: k) cs
      cases e with
      | normal => exact ⟨.normal, a₁, w₁, hq, Steps.trans harr (.one step_inScope)⟩
      | exit id => exact ⟨.exit id, a₁, w₁, hq, fun k' hk => harr k' (by simp [exitTo, hk])⟩
      | goto l' =>
        obtain ⟨m, hm, hj'⟩ := hq
        obtain ⟨r2, hr2, _⟩ := pass l' m a₁ w₁ hj'
        obtain ⟨e₂, a₂, w₂, hq₂, harr₂⟩ := ih m hm l' a₁ w₁ r2 hj' hr2
        exact ⟨e₂, a₂, w₂, hq₂, .of_steps (harr _ (by simp [gotoIn, hr2])) harr₂⟩
      | ret => exact ⟨_, a₁, w₁, hq, harr⟩
      | panic ch => exact ⟨_, a₁, w₁, hq, harr⟩
      | outgrown => exact ⟨_, a₁, w₁, hq, harr⟩
  obtain ⟨e, a₁, w₁, hq, harr⟩ := first b (.inScope c :: k) cs
  cases e with
  | normal => exact ⟨.normal, a₁, w₁, hq, .head step_scope (Steps.trans harr (.one step_inScope))⟩
  | exit id => exact ⟨.exit id, a₁, w₁, hq, fun k' hk => .head step_scope (harr k' (by simp [exitTo, hk]))⟩
  | goto l' =>
    obtain ⟨m, hj'⟩ := hq
    obtain ⟨r2, hr2, _⟩ := pass l' m a₁ w₁ hj'
    obtain ⟨e₂, a₂, w₂, hq₂, harr₂⟩ := key m l' a₁ w₁ r2 hj' hr2
    exact ⟨e₂, a₂, w₂, hq₂, .of_steps (.head step_scope (harr _ (by simp [gotoIn, hr2]))) harr₂⟩
  | ret => exact ⟨_, a₁, w₁, hq, .of_steps (.one step_scope) harr⟩
  | panic ch => exact ⟨_, a₁, w₁, hq, .of_steps (.one step_scope) harr⟩
  | outgrown => exact ⟨_, a₁, w₁, hq, .of_steps (.one step_scope) harr⟩
end
end Go.Proofs.YtnnfkmjhaljplaaGreatDoor
namespace Go.Proofs.YtnnfkmjhaljplaaGreatDoor
open Go.RowKit Go.Maps
/-- Where the search stands, as mathematics. -/
structure RowM (t : List (List Ev)) (os : List Wls) (T : List (List Nat)) (r : List Nat) : Prop where
  walk : walkW t os (zeroQ t) r = true
  low : lowW t os (evsT t) r
  tried : triedW t os (evsT t) T r
  nd : T.Nodup
  ok : ∀ p ∈ T, okQ t p
section
variable {t : List (List Ev)} {os : List Wls} {T : List (List Nat)} {r : List Nat}
theorem RowM.init : RowM t os [] [] := ⟨rfl, low_nil, tried_nil, List.nodup_nil, fun p hp => by simp at hp⟩
theorem RowM.at_ (h : RowM t os T r) : okQ t (endQ (zeroQ t) r) ∧ (endQ (zeroQ t) r).sum = r.length ∧ r.length ≤ evsT t := by
  obtain ⟨a, b⟩ := walk_ok (okQ_zero t) h.walk
  rw [zeroQ_sum, Nat.zero_add] at b
  exact ⟨a, b, by rw [← b]; exact okQ_sum a⟩
theorem RowM.arrive (h : RowM t os T r) (hn : endQ (zeroQ t) r ∉ T) : RowM t os (endQ (zeroQ t) r :: T) r :=
  ⟨h.walk, h.low, tried_add h.tried, List.nodup_cons.2 ⟨hn, h.nd⟩, fun p hp => by
    rcases List.mem_cons.1 hp with rfl | hp
    · exact h.at_.1
    · exact h.ok p hp⟩
theorem RowM.step (h : RowM t os T r) {k : Nat} (hc : canW t os (endQ (zeroQ t) r) k = true) (hs : ∀ d, d < k → shutC t os (evsT t) (endQ (zeroQ t) r) d) : RowM t os T (r ++ [k]) :=
  ⟨(walkW_snoc _ _ _).2 ⟨h.walk, getD_len (can_lt hc), hc⟩, low_snoc.2 ⟨h.low, hs⟩, tried_step h.tried, h.nd, h.ok⟩
theorem RowM.pop {x : Nat} (h : RowM t os T (r ++ [x])) (hd : onW t os (evsT t) (endQ (zeroQ t) (r ++ [x])) = none) : RowM t os T r ∧ x < t.length ∧ ∀ d, d < x + 1 → shutC t os (evsT t) (endQ (zeroQ t) r) d := by
  obtain ⟨h1, h2, h3⟩ := (walkW_snoc _ _ _).1 h.walk
  obtain ⟨h4, h5⟩ := low_snoc.1 h.low
  refine ⟨⟨h1, h4, tried_pop h.tried hd, h.nd, h.ok⟩, h2, fun d hd' => ?_⟩
  rcases Nat.lt_or_ge d x with a | a
  · exact h5 d a
  · obtain rfl : d = x := by omega
    intro _
    rw [← endQ_snoc]
    exact hd
theorem RowM.done (h : RowM t os T r) (hl : r.length = evsT t) : rowW t os = some r := by
  obtain ⟨_, b, _⟩ := h.at_
  have := low_all r.length (s := []) rfl (by omega) h.walk h.low (on_end (by omega))
  rw [on_zero, List.append_nil] at this
  exact this
theorem RowM.shut (h : RowM t os T r) (hl : r.length < evsT t) (hs : ∀ d, d < t.length → shutC t os (evsT t) (endQ (zeroQ t) r) d) : onW t os (evsT t) (endQ (zeroQ t) r) = none := on_none h.at_.1 (by rw [h.at_.2.1]; exact hl) hs
theorem row_none (h : onW t os (evsT t) (endQ (zeroQ t) []) = none) : rowW t os = none := by
  unfold rowW
  rw [← on_zero]
  exact h
theorem RowM.room (h : RowM t os T r) (hj : JdgOk t os) (hn : endQ (zeroQ t) r ∉ T) : T.length + 1 ≤ 6561 := by
  have a := h.arrive hn
  have := tried_len a.nd hj.few hj.len a.ok
  simpa using this
end
theorem own_pop {w : World} {base : Nat} {e : TypeId} {n q c : Nat} {A : Option Addr} {xs : List Value} (h : w.ownsRow base e 1 (.slice A n c) n xs) (hq : q ≤ n) : w.ownsRow base e 1 (.slice A q c) q (xs.take q) := own_head h hq
/-- The frame: judge, map, size, done, row, core; all else is whatever. -/
def FrmR (b M n G : Nat) (v k : Value) (a : Act) : Prop := ∃ u0 u2 u3 u9 u10 u11 u12 u13 u14 u15 u16 u17 u18 u19 u20 u21 u22 u23 u24 u25 u26 u27 u28 u29 u30 u31 u32 u33 u34 u35 u36 u37 u38 u39 u40 u41 u42 u43 u44 u45 u46 u47 u48 u49 u50 u51 u52 u53 u54 u55 u56 u57 u58 u59 u60 u61 u62 u63 u64 u65 : Value, a = { tmps := #[u0, (.pointer (some ⟨b, 0, none⟩)), u2, u3, (.map (some M)), (.int .i64 (n : Nat)), (.pointer (some ⟨G, 0, none⟩)), v, k, u9, u10, u11, u12, u13, u14, u15, u16, u17, u18, u19, u20, u21, u22, u23, u24, u25, u26, u27, u28, u29, u30, u31, u32, u33, u34, u35, u36, u37, u38, u39, u40, u41, u42, u43, u44, u45, u46, u47, u48, u49, u50, u51, u52, u53, u54, u55, u56, u57, u58, u59, u60, u61, u62, u63, u64, u65], defers := [] }
/-- Where the search stands, in memory. -/
structure RowAt (t : List (List Ev)) (os : List Wls) (A A' : Option Addr) (c c' : Nat) (w : World) (b M G : Nat) (T : List (List Nat)) (r : List Nat) (v : Value) (wr : World) : Prop where
  jd : Bk wr b #[.slice A t.length c, .slice A' os.length c'] 124
  map : TrdM wr M T.length t.length T
  dn : Bk wr G (dnQ (endQ (zeroQ t) r)) 126
  row : wr.ownsRow (G + 1) 2 1 v r.length ((intR r).map (Value.int .i64))
  old : Below w.heap.size w wr
  lb : w.heap.size ≤ b
  bM : b < M
  MG : M < G
section
variable {t : List (List Ev)} {os : List Wls} {A A' : Option Addr} {c c' : Nat} {w : World} {b M G : Nat} {T : List (List Nat)} {r : List Nat} {v : Value} {wr w' : World}
theorem RowAt.below (h : RowAt t os A A' c c' w b M G T r v wr) (hb : Below wr.heap.size wr w') : RowAt t os A A' c c' w b M G T r v w' :=
  ⟨h.jd.kept hb, h.map.below hb, h.dn.kept hb, own_below h.row hb (Nat.le_refl _), h.old.trans (hb.mono h.old.size), h.lb, h.bM, h.MG⟩
end
/-- What holds at each goto. -/
def JR (t : List (List Ev)) (os : List Wls) (A A' : Option Addr) (c c' : Nat) (w : World) (b M n : Nat) : Nat → Nat → Act → World → Prop := fun l m a wr => ∃ (G : Nat) (T : List (List Nat)) (r : List Nat) (v : Value) (k : Nat), FrmR b M n G v (.int .i64 (k : Nat)) a ∧ RowAt t os A A' c c' w b M G T r v wr ∧ RowM t os T r ∧
  ((l = 0 ∧ endQ (zeroQ t) r ∉ T ∧ m = 1000 * (6561 - T.length)) ∨
   (l = 1 ∧ canW t os (endQ (zeroQ t) r) k = true ∧ nextQ (endQ (zeroQ t) r) k ∉ T ∧ (∀ d, d < k → shutC t os (evsT t) (endQ (zeroQ t) r) d) ∧ m = 1000 * (6561 - T.length) + 1) ∨
   (l = 2 ∧ k ≤ t.length ∧ r.length < evsT t ∧ (∀ d, d < k → shutC t os (evsT t) (endQ (zeroQ t) r) d) ∧ m = 1000 * (6561 - T.length) + 2 + 6 * r.length + (5 - k)))
theorem JR.lab {t : List (List Ev)} {os : List Wls} {A A' : Option Addr} {c c' : Nat} {w : World} {b M n l m : Nat} {a : Act} {wr : World} (h : JR t os A A' c c' w b M n l m a wr) : l = 0 ∨ l = 1 ∨ l = 2 := by
  obtain ⟨_, _, _, _, _, _, _, _, h⟩ := h
  rcases h with h | h | h
  · exact .inl h.1
  · exact .inr (.inl h.1)
  · exact .inr (.inr h.1)
/-- What firstRow tells. -/
def RowPost (t : List (List Ev)) (os : List Wls) (w : World) (e : Ending) (w' : World) : Prop := ∃ v, e = .returned (.tuple #[v, .bool (rowW t os).isSome]) ∧ w'.ownsRow w.heap.size 2 1 v ((rowW t os).getD []).length ((intR ((rowW t os).getD [])).map (Value.int .i64)) ∧ Below w.heap.size w w'
set_option maxRecDepth 100000 in
set_option maxHeartbeats 1600000 in
theorem firstRow_any (t : List (List Ev)) (os : List Wls) (A A' : Option Addr) (c c' : Nat) (w : World) (h0 : odF t os = 0) (h : RdT w w.heap.size A t) (h' : RdW w w.heap.size A' os) :
    Calls Tryz.prog 218 #[.agg #[.slice A t.length c, .slice A' os.length c']] w fun e w' => RowPost t os w e w' := by
  have hmm := @run_makeMap Tryz.prog
  have hj := jdg_ok h0
  have HJ := hide hj
  have SZ := hide (fun V (hV : RdT V V.heap.size A t) => size_any t A c (.slice A' os.length c') V (by have := hj.few; omega) (fun l hl => Nat.le_trans (hj.rows l hl) (by omega)) hV)
  have MF := hide (fun V k q (hq : okQ t q) (hk : k < t.length) (hV : RdT V V.heap.size A t) (hV' : RdW V V.heap.size A' os) => mayFollow_any t os q k A A' c c' V hj hq hk hV hV')
  have hev := evsT_few hj
  have ht4 := hj.few
  have HT := hide h
  have HO := hide h'
  clear h0 hj h h'
  go_enter Tryz.func218, Tryz.ntmps218
  obtain ⟨W, hW⟩ : ∃ W, W = w.alloc (Obj.cells #[.slice A t.length c, .slice A' os.length c'] 124) := ⟨_, rfl⟩
  have kb0 : Bk W w.heap.size #[.slice A t.length c, .slice A' os.length c'] 124 := by rw [hW]; exact Bk.new w _ _
  have B0 : Below w.heap.size w W := by rw [hW]; exact (Below.refl _ _).alloc (Nat.le_refl _) _
  have hz0 : W.heap.size = w.heap.size + 1 := by rw [hW, World.size_alloc]
  have HW := hide hW
  clear hW
  go_wp2_with fail
  rw [← HW.out]
  refine wp_scope_labels (JR t os A A' c c' w w.heap.size (w.heap.size + 1) (evsT t)) rfl rfl rfl (fun _ _ _ _ h => h.lab) ?_ ?_ ?_ ?_
  · rintro m a wr ⟨G, T, r, v, k, ⟨u0, u2, u3, u9, u10, u11, u12, u13, u14, u15, u16, u17, u18, u19, u20, u21, u22, u23, u24, u25, u26, u27, u28, u29, u30, u31, u32, u33, u34, u35, u36, u37, u38, u39, u40, u41, u42, u43, u44, u45, u46, u47, u48, u49, u50, u51, u52, u53, u54, u55, u56, u57, u58, u59, u60, u61, u62, u63, u64, u65, rfl⟩, hR, hM, hl⟩
    obtain ⟨hk, hrl, hsh, hm⟩ : k ≤ t.length ∧ r.length < evsT t ∧ (∀ d, d < k → shutC t os (evsT t) (endQ (zeroQ t) r) d) ∧ m = 1000 * (6561 - T.length) + 2 + 6 * r.length + (5 - k) := by
      rcases hl with h | h | h
      · exact absurd h.1 (by omega)
      · exact absurd h.1 (by omega)
      · exact h.2
    clear hl kb0 B0 hz0
    have HM := hide hM
    have HSH := hide hsh
    have HMM := hide hm
    obtain ⟨q, hq⟩ : ∃ q, q = endQ (zeroQ t) r := ⟨_, rfl⟩
    have HOQ := hide (show okQ t q by rw [hq]; exact hM.at_.1)
    have HQ := hide hq
    clear hM hsh hm hq
    go_wp2
    go_loopw [8] (fun i wx => ∃ j : Nat, i = .int .i64 j ∧ k ≤ j ∧ j ≤ t.length ∧ RowAt t os A A' c c' w w.heap.size (w.heap.size + 1) G T r v wx ∧ Hid (∀ d, d < j → shutC t os (evsT t) q d)) (fun i _ => t.length - (intOf i).toNat)
    case atStart => exact ⟨k, rfl, Nat.le_refl _, hk, hR, hide (by rw [HQ.out]; exact HSH.out)⟩
    case round =>
      clear hR HSH
      obtain ⟨j, rfl, hkj, hjt, hR, HSH⟩ := hrel
      have q0 := (hR.jd.cell 0).trans (rfl : _ = some (Value.slice A t.length c))
      have q1 := (hR.jd.cell 1).trans (rfl : _ = some (Value.slice A' os.length c'))
      by_cases hlt : j < t.length
      · have hdn : Bk wr G (dnQ q) 126 := by rw [HQ.out]; exact hR.dn
        have d0 := (hdn.cell 0).trans (rfl : _ = some (Value.int .i64 (q.getD 0 0 : Nat)))
        have d1 := (hdn.cell 1).trans (rfl : _ = some (Value.int .i64 (q.getD 1 0 : Nat)))
        have d2 := (hdn.cell 2).trans (rfl : _ = some (Value.int .i64 (q.getD 2 0 : Nat)))
        have d3 := (hdn.cell 3).trans (rfl : _ = some (Value.int .i64 (q.getD 3 0 : Nat)))
        have hT := (HT.out.below hR.old).lt
        have hO := (HO.out.below hR.old).lt
        have CM := hide (MF.out wr j q HOQ.out hlt hT hO)
        have hwj : IntKind.i64.wrap ((j : Int) + 1) = (j : Int) + 1 := by rw [IntKind.wrap_i64]; omega
        clear hT hO hdn
        go_wp2_with fail
        refine CM.out.mono ?_
        rintro e w3 ⟨rfl, b3⟩
        have hR3 := hR.below b3
        clear hR b3 q0 q1 d0 d1 d2 d3 CM
        cases hcan : canW t os q j
        · have HSN := hide (show ∀ d, d < j + 1 → shutC t os (evsT t) q d from fun d hd => by
            rcases Nat.lt_or_ge d j with a | a
            · exact HSH.out d a
            · obtain rfl : d = j := by omega
              intro h
              rw [hcan] at h
              cases h)
          clear hcan
          go_wp2
          go_roundw
          case rel => exact ⟨j + 1, by go_num, by omega, by omega, hR3, HSN⟩
          case measure => simp [intOf]; omega
        · have HCAN := hide hcan
          have hdn : Bk w3 G (dnQ q) 126 := by rw [HQ.out]; exact hR3.dn
          have d0 := (hdn.cell 0).trans (rfl : _ = some (Value.int .i64 (q.getD 0 0 : Nat)))
          have d1 := (hdn.cell 1).trans (rfl : _ = some (Value.int .i64 (q.getD 1 0 : Nat)))
          have d2 := (hdn.cell 2).trans (rfl : _ = some (Value.int .i64 (q.getD 2 0 : Nat)))
          have d3 := (hdn.cell 3).trans (rfl : _ = some (Value.int .i64 (q.getD 3 0 : Nat)))
          have hnx := okQ_next HOQ.out hcan
          have hqj : q.getD j 0 ≤ 8 := Nat.le_trans (HOQ.out.2 j) (HJ.out.len j)
          have WA := hide (with_any q j w3 (by rw [HOQ.out.1]; exact hlt) (by rw [HOQ.out.1]; exact ht4) (by omega))
          clear hcan hdn hqj
          go_wp2_with fail
          refine WA.out.mono ?_
          rintro e w4 ⟨rfl, b4⟩
          have hR4 := hR3.below b4
          have hlk := hR4.map.look hnx.1 (fun i => Nat.le_trans (hnx.2 i) (HJ.out.len i))
          clear hR3 b4 d0 d1 d2 d3 WA hnx
          cases hin : decide (nextQ q j ∈ T)
          · rw [hin] at hlk
            have HIN := hide (of_decide_eq_false hin)
            clear hin
            go_wp2
            go_step3
            exact ⟨1000 * (6561 - T.length) + 1, by have := HMM.out; omega, G, T, r, v, j, ⟨_, _, _, _, _, _, _, _, _, _, _, _, _, _, _, _, _, _, _, _, _, _, _, _, _, _, _, _, _, _, _, _, _, _, _, _, _, _, _, _, _, _, _, _, _, _, _, _, _, _, _, _, _, _, _, _, _, _, _, _, rfl⟩, hR4, HM.out, .inr (.inl ⟨rfl, by rw [← HQ.out]; exact HCAN.out, by rw [← HQ.out]; exact HIN.out, by rw [← HQ.out]; exact HSH.out, rfl⟩)⟩
          · rw [hin] at hlk
            have HSN := hide (show ∀ d, d < j + 1 → shutC t os (evsT t) q d from fun d hd => by
              rcases Nat.lt_or_ge d j with a | a
              · exact HSH.out d a
              · obtain rfl : d = j := by omega
                intro h
                rw [HQ.out] at h hin ⊢
                exact tried_hit HM.out.tried HM.out.walk h (of_decide_eq_true hin))
            clear hin
            go_wp2
            go_roundw
            case rel => exact ⟨j + 1, by go_num, by omega, by omega, hR4, HSN⟩
            case measure => simp [intOf]; omega
      · obtain rfl : j = t.length := by omega
        have HD := hide (HM.out.shut hrl (by rw [← HQ.out]; exact HSH.out))
        obtain ⟨Av, cv, hv⟩ := own_shape hR.row
        subst hv
        clear HSH
        by_cases hr0 : r.length = 0
        · have g0 : ((r.length : Int) == 0) = true := beq_iff_eq.2 (by omega)
          obtain rfl := List.eq_nil_of_length_eq_zero hr0
          have HE := hide (row_none HD.out)
          have HB := hide hR.old
          clear hr0 hR
          go_wp2
          go_ret2
          unfold RowPost
          rw [HE.out]
          exact ⟨_, rfl, World.ownsRow_nil _ _ _ _, HB.out⟩
        · have g0 : ((r.length : Int) == 0) = false := beq_eq_false_iff_ne.2 (by omega)
          obtain ⟨r', x, rfl⟩ : ∃ r' x, r = r' ++ [x] := ⟨r.dropLast, r.getLast (fun e => by rw [e] at hr0; simp at hr0), (List.dropLast_concat_getLast _).symm⟩
          obtain ⟨hM', hxt, hsh'⟩ := HM.out.pop HD.out
          obtain ⟨q', hq'⟩ : ∃ q', q' = endQ (zeroQ t) r' := ⟨_, rfl⟩
          have hqq : q = nextQ q' x := by rw [HQ.out, endQ_snoc, hq']
          have hok' : okQ t q' := by rw [hq']; exact hM'.at_.1
          have hxl : x < q'.length := by rw [hok'.1]; exact hxt
          have hx4 : x < 4 := by omega
          have hlen : (r' ++ [x]).length = r'.length + 1 := by simp
          have hrow := hR.row
          rw [hlen] at g0 hrl hrow ⊢
          obtain ⟨g, cap, cur, hv, hgb, _⟩ := own_open hrow (by omega)
          simp only [Value.slice.injEq] at hv
          obtain ⟨hv1, _, hv3⟩ := hv
          subst hv1
          subst hv3
          obtain ⟨L, hL⟩ : ∃ L, L = r'.length := ⟨_, rfl⟩
          rw [← hL] at g0 hrl hrow ⊢
          have hcr : wr.cell? ⟨g, L, none⟩ = some (.int .i64 (x : Nat)) := by
            rw [hrow.cellAt L (by omega)]
            unfold intR
            rw [List.map_append, List.map_append, List.getElem?_append_right (by simp; omega)]
            simp [hL]
          have hpop : wr.ownsRow (G + 1) 2 1 (.slice (some ⟨g, 0, none⟩) L cv) L ((intR r').map (Value.int .i64)) := by
            have := own_pop hrow (q := L) (by omega)
            unfold intR at this ⊢
            rw [List.map_append, List.map_append, List.take_append_of_le_length (by simp; omega), List.take_of_length_le (by simp; omega)] at this
            exact this
          have hdn : Bk wr G (dnQ q) 126 := by rw [HQ.out]; exact hR.dn
          obtain ⟨nx, hnx⟩ : ∃ nx, nx = q'.getD x 0 := ⟨_, rfl⟩
          have hn8 : nx ≤ 8 := by rw [hnx]; exact Nat.le_trans (hok'.2 x) (HJ.out.len x)
          have hcx : wr.cell? ⟨G, x, none⟩ = some (.int .i64 ((nx : Int) + 1)) := by
            rw [(hdn.cell x).trans (dnQ_get q hx4), hqq, nextQ_get hxl, if_pos rfl, ← hnx]
            rfl
          have hfx := hdn.frozen x
          have hbk : (dnQ q).setIfInBounds x (.int .i64 (nx : Nat)) = dnQ q' := by
            rw [hqq, dnQ_next hxl, hnx]
            unfold dnQ
            rcases (show x = 0 ∨ x = 1 ∨ x = 2 ∨ x = 3 by omega) with rfl | rfl | rfl | rfl <;> simp
          have HRN := hide (show RowAt t os A A' c c' w w.heap.size (w.heap.size + 1) G T r' (.slice (some ⟨g, 0, none⟩) L cv) (wr.setCell ⟨G, x, none⟩ (.int .i64 (nx : Nat))) from by
            have hbM := hR.bM
            have hMG := hR.MG
            refine ⟨hR.jd.far (by show w.heap.size ≠ G; omega) _, hR.map.cell (by show w.heap.size + 1 ≠ G; omega) _, ?_, ?_, hR.old.setCell (p := ⟨G, x, none⟩) (by show w.heap.size ≤ G; omega) _, hR.lb, hR.bM, hR.MG⟩
            · rw [← hq', ← hbk]; exact hdn.set_ x _
            · rw [← hL]; exact ownsRow_setCell_below hpop (a := ⟨G, x, none⟩) (Nat.lt_succ_self G) _)
          have HMN := hide hM'
          have HSN := hide hsh'
          have hL32 : L ≤ 32 := by omega
          have w1 : IntKind.i64.wrap ((L : Int) + 1 - 1) = (L : Int) := by rw [IntKind.wrap_i64]; omega
          have w2 : IntKind.i64.wrap (L : Int) = (L : Int) := by rw [IntKind.wrap_i64]; omega
          have w3 : IntKind.i64.wrap ((nx : Int) + 1 - 1) = (nx : Int) := by rw [IntKind.wrap_i64]; omega
          have w4 : IntKind.i64.wrap (nx : Int) = (nx : Int) := by rw [IntKind.wrap_i64]; omega
          have w5 : IntKind.i64.wrap ((x : Int) + 1) = (x : Int) + 1 := by rw [IntKind.wrap_i64]; omega
          have hcap : L + 1 ≤ cv := (own_capE hrow).1
          have x0 : (0 : Int) ≤ (x : Int) := by omega
          have x1 : (x : Int) < 4 := by omega
          have x2 : ((x : Int)).toNat = x := by omega
          have hms : m = 1000 * (6561 - T.length) + 2 + 6 * (L + 1) + (5 - k) := by rw [HMM.out, hlen, hL]
          have HLL := hide hL
          clear hR hrow hpop hdn hqq hok' hq' hnx hbk hM' hsh' HMM HD HM hlen hL HQ HOQ q1
          go_wp2
          go_step3
          exact ⟨1000 * (6561 - T.length) + 2 + 6 * L + (5 - (x + 1)), by omega, G, T, r', .slice (some ⟨g, 0, none⟩) L cv, x + 1, ⟨_, _, _, _, _, _, _, _, _, _, _, _, _, _, _, _, _, _, _, _, _, _, _, _, _, _, _, _, _, _, _, _, _, _, _, _, _, _, _, _, _, _, _, _, _, _, _, _, _, _, _, _, _, _, _, _, _, _, _, _, rfl⟩, HRN.out, HMN.out, .inr (.inr ⟨rfl, by omega, by rw [← HLL.out]; omega, HSN.out, by rw [← HLL.out]⟩)⟩
  · rintro m a wr ⟨G, T, r, v, k, ⟨u0, u2, u3, u9, u10, u11, u12, u13, u14, u15, u16, u17, u18, u19, u20, u21, u22, u23, u24, u25, u26, u27, u28, u29, u30, u31, u32, u33, u34, u35, u36, u37, u38, u39, u40, u41, u42, u43, u44, u45, u46, u47, u48, u49, u50, u51, u52, u53, u54, u55, u56, u57, u58, u59, u60, u61, u62, u63, u64, u65, rfl⟩, hR, hM, hl⟩
    obtain ⟨hcan, hin, hsh, hm⟩ : canW t os (endQ (zeroQ t) r) k = true ∧ nextQ (endQ (zeroQ t) r) k ∉ T ∧ (∀ d, d < k → shutC t os (evsT t) (endQ (zeroQ t) r) d) ∧ m = 1000 * (6561 - T.length) + 1 := by
      rcases hl with h | h | h
      · exact absurd h.1 (by omega)
      · exact h.2
      · exact absurd h.1 (by omega)
    obtain ⟨i0, hi, y0, y1, y2⟩ := info_parts info_i64
    have HMN := hide (hM.step hcan hsh)
    have hrl := hM.at_.2.2
    obtain ⟨q, hq⟩ : ∃ q, q = endQ (zeroQ t) r := ⟨_, rfl⟩
    have hoq : okQ t q := by rw [hq]; exact hM.at_.1
    have HOQ := hide hoq
    rw [← hq] at hcan hin
    have hkt : k < t.length := getD_len (can_lt hcan)
    have hqk : q.getD k 0 ≤ 8 := Nat.le_trans (hoq.2 k) (HJ.out.len k)
    have HIN := hide hin
    have HMM := hide hm
    have HQ := hide hq
    obtain ⟨Av, cv, hv⟩ := own_shape hR.row
    subst hv
    have hbM := hR.bM
    have hMG := hR.MG
    have hGz : G < wr.heap.size := hR.dn.lt
    have hrow0 := hR.row.alloc (Obj.cells #[.int .i64 (k : Nat)] 2)
    have hjd0 := hR.jd.alloc (Obj.cells #[.int .i64 (k : Nat)] 2)
    have hmp0 := hR.map.alloc (Obj.cells #[.int .i64 (k : Nat)] 2)
    have hdn0 : Bk (wr.alloc (Obj.cells #[.int .i64 (k : Nat)] 2)) G (dnQ q) 126 := by rw [hq]; exact hR.dn.alloc _
    have hold0 := hR.old.alloc hR.old.size (Obj.cells #[.int .i64 (k : Nat)] 2)
    have hBl := Rd.one_new wr (k : Int) 2
    have hzz : (wr.alloc (Obj.cells #[.int .i64 (k : Nat)] 2)).heap.size = wr.heap.size + 1 := World.size_alloc _ _
    have hir := intR_len r
    have a63 : r.length + [(k : Int)].length ≤ maxLen := by unfold maxLen; simp only [List.length_cons, List.length_nil]; omega
    have aby : (r.length + [(k : Int)].length) * 8 ≤ 140737488355328 := by simp only [List.length_cons, List.length_nil]; omega
    have abs : G + 1 ≤ (wr.alloc (Obj.cells #[.int .i64 (k : Nat)] 2)).heap.size := by rw [hzz]; omega
    have sepG : ∀ e : Nat, e ≤ G → some e ≠ (Value.slice Av r.length cv).ownBlock := fun e he hh => by
      have := (hrow0.lt e hh.symm).1
      omega
    clear hl kb0 B0 hz0 hM hsh hm hcan hin hq hR hoq
    go_wp2_with (at_builtin; refine wpList_append_rd _ rfl (.tmp 59) (.tmp 61) 25 rfl (G + 1) 2 i0 (.int .i64 0) 8 Tryz.underlying25 hi y0 y1 y2 rfl .i64 _ _ _ rfl hrow0 (some ⟨wr.heap.size, 0, none⟩) [(k : Int)] 1 _ rfl hBl a63 aby abs ?_; intro v5 w5 o5 g5 hat5; have hdn5 := hdn0.grown g5 (sepG _ (Nat.le_refl _)); have d0 := (hdn5.cell 0).trans (rfl : _ = some (Value.int .i64 (q.getD 0 0 : Nat))); have d1 := (hdn5.cell 1).trans (rfl : _ = some (Value.int .i64 (q.getD 1 0 : Nat))); have d2 := (hdn5.cell 2).trans (rfl : _ = some (Value.int .i64 (q.getD 2 0 : Nat))); have d3 := (hdn5.cell 3).trans (rfl : _ = some (Value.int .i64 (q.getD 3 0 : Nat))))
    have hjd5 := hjd0.grown g5 (sepG _ (by omega))
    have hmp5 := hmp0.other g5 (sepG _ (by omega))
    have hold5 := hold0.trans (grown_below hrow0 g5 hold0.size (by omega))
    have HRW := hide (show w5.ownsRow (G + 1) 2 1 v5 (r ++ [k]).length ((intR (r ++ [k])).map (Value.int .i64)) by
      unfold intR at o5 ⊢
      rw [List.length_append, List.map_append, List.map_append]
      exact o5)
    have WA := hide (with_any q k w5 (by rw [HOQ.out.1]; exact hkt) (by rw [HOQ.out.1]; exact ht4) (by omega))
    clear o5 g5 hat5 hrow0 hjd0 hmp0 hdn0 hold0 hBl hzz sepG
    go_wp2_with fail
    refine WA.out.mono ?_
    rintro e w6 ⟨rfl, b6⟩
    have hjd6 := hjd5.kept b6
    have hmp6 := hmp5.below b6
    have hdn6 := hdn5.kept b6
    have hold6 := hold5.trans (b6.mono hold5.size)
    have HRW6 := hide (own_below HRW.out b6 (Nat.le_refl _))
    have hlv5 : v5.ownBlock = none ∨ ∃ z, v5.ownBlock = some z ∧ G + 1 ≤ z := by
      cases hh : v5.ownBlock with
      | none => exact .inl rfl
      | some z => exact .inr ⟨z, rfl, (HRW.out.lt z hh).1⟩
    obtain ⟨q', hq'⟩ : ∃ q', q' = nextQ q k := ⟨_, rfl⟩
    have HQ' := hide (show q' = endQ (zeroQ t) (r ++ [k]) by rw [endQ_snoc, ← HQ.out]; exact hq')
    rw [← hq'] at HIN ⊢
    rw [dnQ_lit q']
    have e0 := (hdn6.cell 0).trans (rfl : _ = some (Value.int .i64 (q.getD 0 0 : Nat)))
    have e1 := (hdn6.cell 1).trans (rfl : _ = some (Value.int .i64 (q.getD 1 0 : Nat)))
    have e2 := (hdn6.cell 2).trans (rfl : _ = some (Value.int .i64 (q.getD 2 0 : Nat)))
    have e3 := (hdn6.cell 3).trans (rfl : _ = some (Value.int .i64 (q.getD 3 0 : Nat)))
    have f0 := hdn6.frozen 0
    have f1 := hdn6.frozen 1
    have f2 := hdn6.frozen 2
    have f3 := hdn6.frozen 3
    have hwG : w.heap.size ≤ G := by omega
    have HN := hide (show RowAt t os A A' c c' w w.heap.size (w.heap.size + 1) G T (r ++ [k]) v5 ((((w6.setCell ⟨G, 0, none⟩ (.int .i64 (q'.getD 0 0 : Nat))).setCell ⟨G, 1, none⟩ (.int .i64 (q'.getD 1 0 : Nat))).setCell ⟨G, 2, none⟩ (.int .i64 (q'.getD 2 0 : Nat))).setCell ⟨G, 3, none⟩ (.int .i64 (q'.getD 3 0 : Nat))) from
      ⟨hjd6.far4 (by omega) _ _ _ _, (((hmp6.cell (a := ⟨G, 0, none⟩) (by show w.heap.size + 1 ≠ G; omega) _).cell (a := ⟨G, 1, none⟩) (by show w.heap.size + 1 ≠ G; omega) _).cell (a := ⟨G, 2, none⟩) (by show w.heap.size + 1 ≠ G; omega) _).cell (a := ⟨G, 3, none⟩) (by show w.heap.size + 1 ≠ G; omega) _, by rw [← HQ'.out]; exact hdn6.done q', ownsRow_setCell_below (ownsRow_setCell_below (ownsRow_setCell_below (ownsRow_setCell_below HRW6.out (a := ⟨G, 0, none⟩) (Nat.lt_succ_self G) _) (a := ⟨G, 1, none⟩) (Nat.lt_succ_self G) _) (a := ⟨G, 2, none⟩) (Nat.lt_succ_self G) _) (a := ⟨G, 3, none⟩) (Nat.lt_succ_self G) _, (((hold6.setCell (p := ⟨G, 0, none⟩) hwG _).setCell (p := ⟨G, 1, none⟩) hwG _).setCell (p := ⟨G, 2, none⟩) hwG _).setCell (p := ⟨G, 3, none⟩) hwG _, Nat.le_refl _, hbM, hMG⟩)
    clear hjd5 hmp5 hdn5 hold5 hjd6 hmp6 hdn6 hold6 HRW HRW6 b6 d0 d1 d2 d3 WA hq'
    go_wp2
    go_step3
    exact ⟨1000 * (6561 - T.length), by have := HMM.out; omega, G, T, r ++ [k], v5, k, ⟨_, _, _, _, _, _, _, _, _, _, _, _, _, _, _, _, _, _, _, _, _, _, _, _, _, _, _, _, _, _, _, _, _, _, _, _, _, _, _, _, _, _, _, _, _, _, _, _, _, _, _, _, _, _, _, _, _, _, _, _, rfl⟩, HN.out, HMN.out, .inl ⟨rfl, by rw [← HQ'.out]; exact HIN.out, rfl⟩⟩
  · intro P2
    rintro m a wr ⟨G, T, r, v, k, ⟨u0, u2, u3, u9, u10, u11, u12, u13, u14, u15, u16, u17, u18, u19, u20, u21, u22, u23, u24, u25, u26, u27, u28, u29, u30, u31, u32, u33, u34, u35, u36, u37, u38, u39, u40, u41, u42, u43, u44, u45, u46, u47, u48, u49, u50, u51, u52, u53, u54, u55, u56, u57, u58, u59, u60, u61, u62, u63, u64, u65, rfl⟩, hR, hM, hl⟩
    obtain ⟨hin, hm⟩ : endQ (zeroQ t) r ∉ T ∧ m = 1000 * (6561 - T.length) := by
      rcases hl with h | h | h
      · exact h.2
      · exact absurd h.1 (by omega)
      · exact absurd h.1 (by omega)
    have hrl := hM.at_.2.2
    have HB := hide hR.old
    obtain ⟨Av, cv, hv⟩ := own_shape hR.row
    subst hv
    by_cases hfull : r.length = evsT t
    · have HE := hide (hM.done hfull)
      have g0 : ((r.length : Int) == ((evsT t : Nat) : Int)) = true := beq_iff_eq.2 (by omega)
      have HRW := hide (own_mono hR.row (base' := w.heap.size) (by have := hR.bM; have := hR.MG; omega))
      clear hl kb0 B0 hz0 hM hR hin hm hfull P2
      go_wp2
      go_ret2
      unfold RowPost
      rw [HE.out]
      exact ⟨_, rfl, HRW.out, HB.out⟩
    · have g0 : ((r.length : Int) == ((evsT t : Nat) : Int)) = false := beq_eq_false_iff_ne.2 (by omega)
      have hroom := hM.room HJ.out hin
      have HMM := hide hm
      obtain ⟨q, hq⟩ : ∃ q, q = endQ (zeroQ t) r := ⟨_, rfl⟩
      have HMN := hide (show RowM t os (q :: T) r by rw [hq]; exact hM.arrive hin)
      have hoq : okQ t q := by rw [hq]; exact hM.at_.1
      have h8 : ∀ i, q.getD i 0 ≤ 8 := fun i => Nat.le_trans (hoq.2 i) (HJ.out.len i)
      have hdn : Bk wr G (dnQ q) 126 := by rw [hq]; exact hR.dn
      have d0 := (hdn.cell 0).trans (rfl : _ = some (Value.int .i64 (q.getD 0 0 : Nat)))
      have d1 := (hdn.cell 1).trans (rfl : _ = some (Value.int .i64 (q.getD 1 0 : Nat)))
      have d2 := (hdn.cell 2).trans (rfl : _ = some (Value.int .i64 (q.getD 2 0 : Nat)))
      have d3 := (hdn.cell 3).trans (rfl : _ = some (Value.int .i64 (q.getD 3 0 : Nat)))
      have hkey := keyQ (q := q) fun i => Nat.le_trans (h8 i) (by omega)
      obtain ⟨D, hown, hD⟩ := hR.map
      have hTm : T.length < maxLen := by unfold maxLen; omega
      have HNX := hide (fun (w1 : World) (ho : w1.ownsMap Tryz.prog 126 rdH (w.heap.size + 1) (T.length + 1) (D.put (litQ q) (.held (.bool true)))) (hg : wr.grownBy w1 (some (w.heap.size + 1))) => (show RowAt t os A A' c c' w w.heap.size (w.heap.size + 1) G (q :: T) r (.slice Av r.length cv) w1 from
        ⟨hR.jd.grown hg (by intro e; injection e with e; omega), ⟨_, ho, trd_put hown.isMap hoq.1 ht4 h8 hD⟩, hR.dn.grown hg (by intro e; injection e with e; have := hR.MG; omega), hR.row.kept hg (own_sep fun z hz e => by have := (hR.row.lt z hz).1; have := hR.MG; simp only [Option.some.injEq] at e; omega), hR.old.grown hg hR.old.size (fun z hz => by injection hz with hz; omega), Nat.le_refl _, hR.bM, hR.MG⟩))
      have HQ := hide hq
      have hlt : r.length < evsT t := by omega
      clear hl kb0 B0 hz0 hM hR hin hm hfull hq hdn
      go_wp2_with (first | (at_mapUpdate; refine wpList_mapUpdate_own _ rfl _ _ _ 355 rfl 126 4 lawQ Tryz.underlying355 rdH (w.heap.size + 1) T.length D rfl hown hTm _ _ _ rfl rfl hkey (.held (.bool true)) [] rfl ?_; intro w1 hown1 hgrow1) | go_in)
      go_step3
      rename_i hK
      exact hK _ _ (P2 m (1000 * (6561 - (q :: T).length) + 2 + 6 * r.length + (5 - 0)) _ _ (by have := HMM.out; simp only [List.length_cons]; omega) ⟨G, q :: T, r, .slice Av r.length cv, 0, ⟨_, _, _, _, _, _, _, _, _, _, _, _, _, _, _, _, _, _, _, _, _, _, _, _, _, _, _, _, _, _, _, _, _, _, _, _, _, _, _, _, _, _, _, _, _, _, _, _, _, _, _, _, _, _, _, _, _, _, _, _, rfl⟩, HNX.out w1 hown1 hgrow1, HMN.out, .inr (.inr ⟨rfl, Nat.zero_le _, hlt, fun d hd => absurd hd (Nat.not_lt_zero d), rfl⟩)⟩)
  · intro P0
    have HP0 := hide P0
    clear P0
    obtain ⟨Y, hY⟩ : ∃ Y, Y = W.alloc (.map #[] 0) := ⟨_, rfl⟩
    have kbY : Bk Y w.heap.size #[.slice A t.length c, .slice A' os.length c'] 124 := by rw [hY]; exact kb0.alloc _
    have tmY : TrdM Y (w.heap.size + 1) 0 t.length [] := by
      rw [hY, ← hz0]
      exact TrdM.made W t.length
    have BY : Below w.heap.size w Y := by rw [hY]; exact B0.alloc B0.size _
    have zY : Y.heap.size = w.heap.size + 2 := by rw [hY, World.size_alloc, hz0]
    have q0 := (kbY.cell 0).trans (rfl : _ = some (Value.slice A t.length c))
    have q1 := (kbY.cell 1).trans (rfl : _ = some (Value.slice A' os.length c'))
    have SY := hide (SZ.out Y ((HT.out.below BY).lt))
    have HY := hide hY
    clear hY
    go_upto_region 2 with fail
    rw [← HY.out]
    go_wp2_with fail
    refine SY.out.mono ?_
    rintro e w2 ⟨rfl, b2⟩
    have z2 := b2.size
    have kd := Bk.new w2 #[.int .i64 0, .int .i64 0, .int .i64 0, .int .i64 0] 126
    have HN := hide (show RowAt t os A A' c c' w w.heap.size (w.heap.size + 1) w2.heap.size [] [] (.slice none 0 0) (w2.alloc (Obj.cells #[.int .i64 0, .int .i64 0, .int .i64 0, .int .i64 0] 126)) from
      ⟨(kbY.kept b2).alloc _, (tmY.below b2).alloc _, by
        show Bk _ w2.heap.size (dnQ (zeroQ t)) _
        rw [dnQ_lit, zeroQ_get, zeroQ_get, zeroQ_get, zeroQ_get]
        exact kd, World.ownsRow_nil _ _ _ _, (BY.trans (b2.mono BY.size)).alloc (BY.trans (b2.mono BY.size)).size _, Nat.le_refl _, by omega, by omega⟩)
    clear kd kbY tmY q0 q1 b2 SY
    go_wp2
    go_step3
    rename_i hK
    exact hK _ _ (HP0.out (1000 * (6561 - 0)) _ _ ⟨w2.heap.size, [], [], .slice none 0 0, 0, ⟨_, _, _, _, _, _, _, _, _, _, _, _, _, _, _, _, _, _, _, _, _, _, _, _, _, _, _, _, _, _, _, _, _, _, _, _, _, _, _, _, _, _, _, _, _, _, _, _, _, _, _, _, _, _, _, _, _, _, _, _, rfl⟩, HN.out, RowM.init, .inl ⟨rfl, by simp, rfl⟩⟩)
end Go.Proofs.YtnnfkmjhaljplaaGreatDoor
namespace Go.Proofs.YtnnfkmjhaljplaaGreatDoor
open Go.RowKit
/-- What CheckTrace tells. -/
def ChkPost (t : List (List Ev)) (os : List Wls) (w : World) (e : Ending) (w' : World) : Prop := ∃ A c, e = .returned (.agg #[.int .i64 (chkR t os).1, .bool (chkR t os).2.1, .slice A (chkR t os).2.2.length c]) ∧ w'.ownsRow w.heap.size 2 1 (.slice A (chkR t os).2.2.length c) (chkR t os).2.2.length ((chkR t os).2.2.map (Value.int .i64)) ∧ Below w.heap.size w w'
theorem chkR_bad {t : List (List Ev)} {os : List Wls} (h : ¬ odF t os = 0) : chkR t os = (odF t os, false, []) := by unfold chkR; rw [if_neg h]
theorem chkR_ok {t : List (List Ev)} {os : List Wls} (h : odF t os = 0) : chkR t os = (0, (rowW t os).isSome, intR ((rowW t os).getD [])) := by
  unfold chkR
  rw [if_pos h]
  cases rowW t os <;> rfl
set_option maxRecDepth 100000 in
set_option maxHeartbeats 800000 in
theorem implChk_any (t : List (List Ev)) (os : List Wls) (A A' : Option Addr) (c c' : Nat) (w : World) (hm : t.length ≤ maxLen) (hm' : os.length ≤ maxLen) (h : RdT w w.heap.size A t) (h' : RdW w w.heap.size A' os) :
    Calls Tryz.prog 167 #[.slice A t.length c, .slice A' os.length c'] w fun e w' => ChkPost t os w e w' := by
  unfold ChkPost
  obtain ⟨W, hW⟩ : ∃ W, W = w.alloc (Obj.cells #[.int .i64 0, .bool false, .slice none 0 0] 62) := ⟨_, rfl⟩
  have B0 : Below w.heap.size w W := by rw [hW]; exact (Below.refl _ _).alloc (Nat.le_refl _) _
  have hT := (h.below B0).lt
  have hO := (h'.below B0).lt
  have OF := hide (implOrF_any t os A A' c c' W hm hm' hT hO)
  have HW := hide hW
  clear hW
  by_cases h0 : odF t os = 0
  · rw [h0] at OF
    rw [chkR_ok h0]
    have FR := hide (fun V (hV : RdT V V.heap.size A t) (hV' : RdW V V.heap.size A' os) => firstRow_any t os A A' c c' V h0 hV hV')
    clear h0
    unfold RowPost at FR
    obtain ⟨R, hR⟩ : ∃ R, R = rowW t os := ⟨_, rfl⟩
    rw [← hR] at FR ⊢
    clear hR
    obtain ⟨L, hL⟩ : ∃ L, L = R.getD [] := ⟨_, rfl⟩
    rw [← hL] at FR ⊢
    generalize R.isSome = F at *
    clear hL
    go_enter Tryz.func167, Tryz.ntmps167
    go_wp2_with fail
    rw [← HW.out]
    refine OF.out.mono ?_
    rintro e w1 ⟨rfl, b1⟩
    have z1 := b1.size
    have zW := B0.size
    go_wp2_with fail
    refine (FR.out w1 ((hT.below b1).lt) ((hO.below b1).lt)).mono ?_
    rintro e w2 ⟨v, rfl, ho, b2⟩
    obtain ⟨D, d, hv⟩ := own_shape ho
    subst hv
    have hb := b1.trans (b2.mono z1)
    have q0 := W_cell HW.out hb 0
    have q1 := W_cell HW.out hb 1
    have q2 := W_cell HW.out hb 2
    have f0 := W_frozen HW.out hb 0
    have f1 := W_frozen HW.out hb 1
    have f2 := W_frozen HW.out hb 2
    simp at q0 q1 q2
    have hzz := W_size HW.out
    have O1 := hide (((ho.kept (grown_set w2 w.heap.size 0 (.int .i64 0)) (own_sep fun z hz e => by have := (ho.lt z hz).1; simp only [Option.some.injEq] at e; omega)).kept (grown_set _ w.heap.size 1 (.bool F)) (own_sep fun z hz e => by have := (ho.lt z hz).1; simp only [Option.some.injEq] at e; omega)).kept (grown_set _ w.heap.size 2 (.slice D L.length d)) (own_sep fun z hz e => by have := (ho.lt z hz).1; simp only [Option.some.injEq] at e; omega))
    have HB := hide ((((W_below HW.out hb).setCell (p := ⟨w.heap.size, 0, none⟩) (Nat.le_refl _) (.int .i64 0)).setCell (p := ⟨w.heap.size, 1, none⟩) (Nat.le_refl _) (.bool F)).setCell (p := ⟨w.heap.size, 2, none⟩) (Nat.le_refl _) (.slice D L.length d))
    have HZ := hide (show w.heap.size ≤ w1.heap.size by omega)
    clear ho b2 hzz
    go_wp2
    refine bodyPost_ret (v := .agg #[.int .i64 0, .bool F, .slice D L.length d]) (by simp [results, Tryz.results167, go_sem, q0, q1, q2]) rfl ?_
    have el : L.length = (intR L).length := (intR_len L).symm
    refine ⟨D, d, by rw [← el], by rw [← el]; exact own_mono O1.out HZ.out, HB.out⟩
  · rw [chkR_bad h0]
    obtain ⟨F, hF⟩ : ∃ F, F = odF t os := ⟨_, rfl⟩
    rw [← hF] at OF h0 ⊢
    have g0 : (F != 0) = true := bne_iff_ne.2 h0
    have g1 : (F == 0) = false := beq_eq_false_iff_ne.2 h0
    clear hF h0
    go_enter Tryz.func167, Tryz.ntmps167
    go_wp2_with fail
    rw [← HW.out]
    refine OF.out.mono ?_
    rintro e w1 ⟨rfl, hb⟩
    have q0 := W_cell HW.out hb 0
    have q1 := W_cell HW.out hb 1
    have q2 := W_cell HW.out hb 2
    have f0 := W_frozen HW.out hb 0
    have f1 := W_frozen HW.out hb 1
    have f2 := W_frozen HW.out hb 2
    simp at q0 q1 q2
    go_wp2
    refine bodyPost_ret (v := .agg #[.int .i64 F, .bool false, .slice none 0 0]) (by simp [results, Tryz.results167, go_sem, q0, q1, q2]) rfl ?_
    exact ⟨none, 0, rfl, World.ownsRow_nil _ _ _ _, (((W_below HW.out hb).setCell (Nat.le_refl _) _).setCell (Nat.le_refl _) _).setCell (Nat.le_refl _) _⟩
end Go.Proofs.YtnnfkmjhaljplaaGreatDoor
namespace Go.Proofs.YtnnfkmjhaljplaaGreatDoor
open Go.RowKit
theorem keyW_append : ∀ (p q : List Nat) (n : Nat), keyW (p ++ q) n = keyW q (keyW p n)
  | [], _, _ => rfl
  | x :: p, q, n => by rw [List.cons_append, keyW, keyW, keyW_append p q]
theorem keyW_take {q : List Nat} {k : Nat} (h : k < q.length) : keyW (q.take (k + 1)) 0 = keyW (q.take k) 0 * 9 + q.getD k 0 := by
  rw [List.take_succ_eq_append_getElem h, keyW_append, keyW, keyW, List.getD_eq_getElem?_getD, List.getElem?_eq_getElem h]
  rfl
set_option maxRecDepth 100000 in
set_option maxHeartbeats 400000 in
theorem l8Key_any (q : List Nat) (Q : Option Addr) (c : Nat) (w : World) (h4 : q.length ≤ 4) (h8 : ∀ i, q.getD i 0 ≤ 8) (hQ : Rd .i64 w w.heap.size Q (intR q)) :
    Calls Tryz.prog 264 #[.slice Q q.length c] w fun e w' => e = .returned (.int .i64 (keyW q 0 : Nat)) ∧ w = w' := by
  have HX := hide (fun k => by
    have := keyW_lt (q.take k) 0 fun x hx => by
      obtain ⟨i, hi, rfl⟩ := List.getElem_of_mem hx
      have := h8 i
      rw [List.length_take] at hi
      rw [List.getElem_take]
      rw [List.getD_eq_getElem?_getD, List.getElem?_eq_getElem (by omega)] at this
      exact this
    have h9 : 9 ^ (q.take k).length ≤ 9 ^ 4 := Nat.pow_le_pow_right (by omega) (by rw [List.length_take]; omega)
    have h3 : (9 : Nat) ^ 4 = 6561 := rfl
    show keyW (q.take k) 0 ≤ 6561
    omega)
  go_enter Tryz.func264, Tryz.ntmps264
  go_wp2
  go_loop [3, 7] (fun s i => ∃ k n : Nat, k ≤ q.length ∧ i = .int .i64 k ∧ s = .int .i64 n ∧ Hid (n = keyW (q.take k) 0)) (fun _ i => q.length - (intOf i).toNat)
  case atStart => exact ⟨0, 0, Nat.zero_le _, rfl, rfl, hide rfl⟩
  case round =>
    obtain ⟨k, n, hk, rfl, rfl, HN⟩ := hrel
    have hn : n ≤ 6561 := by rw [HN.out]; exact HX.out k
    by_cases hlt : k < q.length
    · have hkq : k < (intR q).length := by rw [intR_len]; exact hlt
      obtain ⟨b, off, rfl, hbb, hc⟩ := hQ.get hkq
      rw [intR_get] at hc
      have HT := hide (keyW_take hlt)
      obtain ⟨x, hx⟩ : ∃ x, x = q.getD k 0 := ⟨_, rfl⟩
      have hx8 : x ≤ 8 := by rw [hx]; exact h8 k
      rw [← hx] at hc HT
      have w1 : IntKind.i64.wrap ((n : Int) * 9) = (n : Int) * 9 := by rw [IntKind.wrap_i64]; omega
      have w2 : IntKind.i64.wrap ((n : Int) * 9 + (x : Int)) = (n : Int) * 9 + (x : Int) := by rw [IntKind.wrap_i64]; omega
      clear hx hkq h8
      go_wp2
      go_round
      case rel => exact ⟨k + 1, n * 9 + x, by omega, by go_num, by go_num, hide (by rw [HT.out, ← HN.out])⟩
      case measure => simp [intOf]; omega
    · obtain rfl : k = q.length := by omega
      have HE := hide (show n = keyW q 0 by rw [HN.out, List.take_length])
      go_wp2
      go_ret
      exact ⟨ret_int (by rw [HE.out]), rfl⟩
end Go.Proofs.YtnnfkmjhaljplaaGreatDoor
