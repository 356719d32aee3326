/- What the laws' walks rest upon, part 5. -/
import Derived.Test.YtnnfkmjhaljplaaGreatDoorM04
import Derived.Test.YtnnfkmjhaljplaaGreatDoorM01
import Derived.Test.YtnnfkmjhaljplaaGreatDoorM02
import Derived.Tactics
import Derived.Tactics2
import Derived.Defers
import Derived.Recover
import Derived.WalkSmall
import Derived.Laws.Pointers
import Derived.WalkKit
import Derived.Maps.AppendAt
import Derived.Maps.Range
import Derived.OwnWalk
import Derived.RegionTactic
namespace Go.Proofs.YtnnfkmjhaljplaaGreatDoor
open Go.RowKit
end Go.Proofs.YtnnfkmjhaljplaaGreatDoor
namespace Go.Proofs.YtnnfkmjhaljplaaGreatDoor
open Go.RowKit
/-- The code of a file's next frame, by what was read. -/
noncomputable def dcFrame (d : List Int) (cs : List (List Ev)) (last : Int) : Int :=
  if frC d = 0 then (if frK d < cs.length ∧ last ≤ frK d ∧ (cs.getD (frK d).toNat []).length + (frE d).length ≤ 8 then 0 else 1) else frC d
/-- The cores behind it. -/
noncomputable def dcNext (d : List Int) (cs : List (List Ev)) : List (List Ev) := cs.set (frK d).toNat (cs.getD (frK d).toNat [] ++ frE d)
open Classical in
/-- The code of a file's end. -/
noncomputable def dcEnd (file : List Int) (at_ : Nat) (cs : List (List Ev)) (n : Nat) : Int :=
  if (file.drop at_).length = 7 ∧ (file.drop at_).getD 0 0 = 69 then
    (if (file.drop at_).getD 1 0 = n ∧ (file.drop at_).getD 2 0 = sumT cs then
      (if fourL (crcV (file.take (at_ + 3))) = (file.drop at_).drop 3 then 0 else 6) else 1) else 5
/-- A file's reading from a place on. -/
noncomputable def dcS : Nat → List Int → Nat → List (List Ev) → Int → Nat → Int × List (List Ev)
  | 0, _, _, _, _, _ => (0, [])
  | f + 1, file, at_, cs, last, n =>
    if at_ < file.length ∧ (file.drop at_).getD 0 0 = 66 then
      (if dcFrame (file.drop at_) cs last = 0 then dcS f file (at_ + (frZ (file.drop at_)).toNat) (dcNext (file.drop at_) cs) (frK (file.drop at_)) (n + 1) else (dcFrame (file.drop at_) cs last, []))
    else (if dcEnd file at_ cs n = 0 then (0, cs) else (dcEnd file at_ cs n, []))
/-- A file begins as files do. -/
def dcHd (file : List Int) : Prop := 2 ≤ file.length ∧ file.getD 0 0 = 67 ∧ 1 ≤ file.getD 1 0 ∧ file.getD 1 0 ≤ 4
open Classical in
noncomputable def dc (file : List Int) : Int × List (List Ev) :=
  if file.length ≤ 2000 then (if dcHd file then dcS (file.length + 1) file 2 (List.replicate (file.getD 1 0).toNat []) 0 0 else (5, [])) else (2, [])
theorem frE_right {d : List Int} (b : B8 d) (h : frC d = 0) : stF (frE d) = 0 ∧ 0 < (frE d).length ∧ 0 ≤ frK d ∧ frK d ≤ 3 ∧ 1 ≤ frZ d ∧ frZ d ≤ d.length := by
  obtain ⟨hH, hQ, hU⟩ := frC_zero h
  obtain ⟨y1, y2, y3⟩ := frC_yes h
  obtain ⟨u1, u2, u3⟩ : pkB (unE (frPay d)) = frPay d ∧ stF (unE (frPay d)) = 0 ∧ (frPay d).length ≤ 4000 := pack_un ((b.take _).drop _) hU
  have hpl := frPay_len d hH
  obtain ⟨h0, h1, h2, h3, h4, h5, h6⟩ := hH
  have hk : d.getD 1 0 = d[1] := by simp [show 1 < d.length by omega]
  have bk := b.get 1 (by omega)
  rw [← hk] at bk
  have hne : 0 < (unE (frPay d)).length := by
    rcases he : unE (frPay d) with _ | ⟨x, es⟩
    · rw [he] at u1
      have := congrArg List.length u1
      rw [hpl] at this
      simp [pkB, packL] at this
      omega
    · simp
  rw [y1, y2, y3]
  exact ⟨u2, hne, bk.1, by omega, by omega, by omega⟩
theorem dcFrame_zero {d : List Int} {cs : List (List Ev)} {last : Int} (h : dcFrame d cs last = 0) : frC d = 0 ∧ frK d < cs.length ∧ last ≤ frK d ∧ (cs.getD (frK d).toNat []).length + (frE d).length ≤ 8 := by
  unfold dcFrame at h
  by_cases h0 : frC d = 0
  · rw [if_pos h0] at h
    by_cases h1 : frK d < cs.length ∧ last ≤ frK d ∧ (cs.getD (frK d).toNat []).length + (frE d).length ≤ 8
    · exact ⟨h0, h1⟩
    · rw [if_neg h1] at h; omega
  · rw [if_neg h0] at h; exact absurd h h0
theorem dcNext_length (d : List Int) (cs : List (List Ev)) : (dcNext d cs).length = cs.length := by unfold dcNext; rw [List.length_set]
/-- Each core keeps its bound. -/
theorem dcNext_few {d : List Int} {cs : List (List Ev)} {last : Int} (h : dcFrame d cs last = 0) (hc : ∀ l ∈ cs, l.length ≤ 8) : ∀ l ∈ dcNext d cs, l.length ≤ 8 := by
  obtain ⟨h0, h1, h2, h3⟩ := dcFrame_zero h
  intro l hl
  unfold dcNext at hl
  rcases List.mem_or_eq_of_mem_set hl with a | a
  · exact hc l a
  · rw [a, List.length_append]; exact h3
theorem dcS_frame {f : Nat} {file : List Int} {at_ : Nat} {cs : List (List Ev)} {last : Int} {n : Nat} (h : at_ < file.length ∧ (file.drop at_).getD 0 0 = 66) (h0 : dcFrame (file.drop at_) cs last = 0) :
    dcS (f + 1) file at_ cs last n = dcS f file (at_ + (frZ (file.drop at_)).toNat) (dcNext (file.drop at_) cs) (frK (file.drop at_)) (n + 1) := by
  conv => lhs; unfold dcS
  rw [if_pos h, if_pos h0]
theorem dcS_stop {f : Nat} {file : List Int} {at_ : Nat} {cs : List (List Ev)} {last : Int} {n : Nat} (h : at_ < file.length ∧ (file.drop at_).getD 0 0 = 66) (h0 : ¬ dcFrame (file.drop at_) cs last = 0) :
    dcS (f + 1) file at_ cs last n = (dcFrame (file.drop at_) cs last, []) := by
  conv => lhs; unfold dcS
  rw [if_pos h, if_neg h0]
theorem dcS_end {f : Nat} {file : List Int} {at_ : Nat} {cs : List (List Ev)} {last : Int} {n : Nat} (h : ¬ (at_ < file.length ∧ (file.drop at_).getD 0 0 = 66)) :
    dcS (f + 1) file at_ cs last n = if dcEnd file at_ cs n = 0 then (0, cs) else (dcEnd file at_ cs n, []) := by
  conv => lhs; unfold dcS
  rw [if_neg h]
theorem dc_many {file : List Int} (h : ¬ file.length ≤ 2000) : dc file = (2, []) := if_neg h
theorem dc_text {file : List Int} (h : file.length ≤ 2000) (h1 : ¬ dcHd file) : dc file = (5, []) := by unfold dc; rw [if_pos h, if_neg h1]
theorem dc_go {file : List Int} (h : file.length ≤ 2000) (h1 : dcHd file) : dc file = dcS (file.length + 1) file 2 (List.replicate (file.getD 1 0).toNat []) 0 0 := by unfold dc; rw [if_pos h, if_pos h1]
theorem dcS_few : ∀ (f : Nat) (file : List Int) (at_ : Nat) (cs : List (List Ev)) (last : Int) (n : Nat), (∀ l ∈ cs, l.length ≤ 8) → (dcS f file at_ cs last n).2.length ≤ cs.length ∧ ∀ l ∈ (dcS f file at_ cs last n).2, l.length ≤ 8
  | 0, file, at_, cs, last, n, _ => by simp [dcS]
  | f + 1, file, at_, cs, last, n, h => by
    by_cases h1 : at_ < file.length ∧ (file.drop at_).getD 0 0 = 66
    · by_cases h2 : dcFrame (file.drop at_) cs last = 0
      · rw [dcS_frame h1 h2]
        have := dcS_few f file (at_ + (frZ (file.drop at_)).toNat) (dcNext (file.drop at_) cs) (frK (file.drop at_)) (n + 1) (dcNext_few h2 h)
        rw [dcNext_length] at this
        exact this
      · rw [dcS_stop h1 h2]; simp
    · rw [dcS_end h1]
      by_cases h3 : dcEnd file at_ cs n = 0
      · rw [if_pos h3]; exact ⟨Nat.le_refl _, h⟩
      · rw [if_neg h3]; simp
theorem dc_few (file : List Int) : (dc file).2.length ≤ 4 ∧ ∀ l ∈ (dc file).2, l.length ≤ 8 := by
  by_cases h : file.length ≤ 2000
  · by_cases h1 : dcHd file
    · rw [dc_go h h1]
      have := dcS_few (file.length + 1) file 2 (List.replicate (file.getD 1 0).toNat []) 0 0 (fun l hl => by rw [List.eq_of_mem_replicate hl]; simp)
      rw [List.length_replicate] at this
      obtain ⟨_, _, _, h4⟩ := h1
      exact ⟨by omega, this.2⟩
    · rw [dc_text h h1]; simp
  · rw [dc_many h]; simp
end Go.Proofs.YtnnfkmjhaljplaaGreatDoor
namespace Go.Proofs.YtnnfkmjhaljplaaGreatDoor
open Go.RowKit
/-- The panic that bears a code. -/
def pn (c : Int) : Value := .iface 197 (.int .i64 c)
theorem must_yes (c : Int) (w : World) :
    Calls Tryz.prog 146 #[.bool true, .int .i64 c] w fun e w' => e = .returned (.tuple #[]) ∧ w' = w := by
  go_enter Tryz.func146, Tryz.ntmps146
  go_wp2
  go_end0
  exact ⟨rfl, rfl⟩
theorem must_no (c : Int) (w : World) :
    Calls Tryz.prog 146 #[.bool false, .int .i64 c] w fun e w' => e = .panicked [{ v := pn c, recovered := false }] ∧ w' = w := by
  go_enter Tryz.func146, Tryz.ntmps146
  go_wp2
  exact ⟨rfl, rfl, rfl⟩
set_option maxRecDepth 100000 in
theorem codeOf_any (c : Int) (w : World) :
    Calls Tryz.prog 75 #[pn c] w fun e w' => e = .returned (.int .i64 c) ∧ w' = w := by
  unfold pn
  have hta : ∀ w, (Instr.typeAssert (.iface 197 (.int .i64 c)) 20 197 true).run Tryz.prog w = .ok (.tuple #[.int .i64 c, .bool true]) w := fun _ => by kernel_rfl
  go_enter Tryz.func75, Tryz.ntmps75
  go_wp2
  go_ret
  exact ⟨rfl, rfl⟩
theorem catch_panicking (g : Nat) (c : Int) (u0 u1 : Value) (older : List PanicEntry) (w : World) (hg : Bk w g #[u0, u1] 36) :
    CallsD Tryz.prog 74 #[.pointer (some ⟨g, 0, none⟩)] (.panicking ({ v := pn c, recovered := false } :: older)) w fun e u' w' =>
      e = .returned (.tuple #[]) ∧ u' = .panicking ({ v := pn c, recovered := true } :: older) ∧ w' = (w.setCell ⟨g, 0, none⟩ (.int .i64 c)).setCell ⟨g, 1, none⟩ (.slice none 0 0) := by
  have q0 : w.cell? ⟨g, 0, none⟩ = some u0 := by rw [hg.cell 0]; rfl
  have q1 : w.cell? ⟨g, 1, none⟩ = some u1 := by rw [hg.cell 1]; rfl
  have f0 := hg.frozen 0
  have f1 := hg.frozen 1
  refine callsD_of_wpS Tryz.func74 rfl fun c₀ cs hu => ?_
  apply wpS_seq
  apply wpS_region
  simp [wpOpsS, go_sem, recoverD, hu, Tryz.ntmps74, Exit.thenS, pn]
  refine wpS_of_wp ?_
  go_wp2_with fail
  have hco := codeOf_any c w
  unfold pn at hco
  refine hco.mono ?_
  rintro e w1 ⟨rfl, rfl⟩
  go_wp2
  simp [bodyPostS, results, Tryz.results74]
theorem catch_idle (g : Nat) (w : World) :
    CallsD Tryz.prog 74 #[.pointer (some ⟨g, 0, none⟩)] .returning w fun e u' w' => e = .returned (.tuple #[]) ∧ u' = .returning ∧ w' = w := by
  refine callsD_of_wpS Tryz.func74 rfl fun c₀ cs hu => ?_
  apply wpS_seq
  apply wpS_region
  simp [wpOpsS, go_sem, recoverD, hu, Tryz.ntmps74, Exit.thenS]
  refine wpS_of_wp ?_
  go_wp2
  cases c₀
  simp_all [bodyPostS, results, Tryz.results74]
end Go.Proofs.YtnnfkmjhaljplaaGreatDoor
namespace Go.Proofs.YtnnfkmjhaljplaaGreatDoor
open Go.RowKit
theorem evs_one : ∀ (l : List Ev), ∀ u ∈ evs l, u.oneCell' = true
  | [], u, h => by simp [evs] at h
  | x :: r, u, h => by
    simp only [evs, List.mem_cons] at h
    rcases h with rfl | rfl | rfl | h
    · rfl
    · rfl
    · rfl
    · exact evs_one r u h
theorem cells_of_re {w : World} {B : Nat} {ad : Addr} {l : List Ev} (h : RdE w B (some ad) l) : ∀ j u, (evs l)[j]? = some u → w.cell? (ad.add j) = some u := by
  intro j u hj
  have hjl : j < (evs l).length := by
    rcases Nat.lt_or_ge j (evs l).length with a | a
    · exact a
    · rw [List.getElem?_eq_none a] at hj; exact absurd hj (by simp)
  obtain ⟨b, off, e, _, hc⟩ := h (by omega)
  cases e
  rw [Go.WideShapes.add_plain, hc j hjl]
  rw [List.getElem?_eq_getElem hjl] at hj
  exact hj
section
variable {P : Program} (w : World)
theorem run_append_re (base : Nat) (t ty e : TypeId) (i : TypeInfo) (z : Value) (bytes : Nat) (ht : P.underlying t = some (.slice e)) (hi : P.info? e = some i) (hz : i.zero = some z)
    (hsize : i.size = 3) (hby : i.bytes = bytes) (hzs : z.cells.size = 3)
    (v : Value) (n : Nat) (xs : List Value) (hown : w.ownsRow base e 3 v n xs) (A : Option Addr) (l : List Ev) (c B : Nat) (hR : RdE w B A l)
    (h63 : n + l.length ≤ maxLen) (hbytes : (n + l.length) * bytes ≤ 140737488355328) (hbase : base ≤ w.heap.size) :
    ∃ v' w', (Builtin.append_ #[t, t] ty #[v, .slice A l.length c]).run P w = .ok v' w' ∧ w'.ownsRow base e 3 v' (n + l.length) (xs ++ evs l) ∧ w.grownBy w' v.ownBlock ∧ (v'.ownBlock = v.ownBlock ∨ v'.ownBlock = some w.heap.size) := by
  rcases A with _ | ad
  · have hl : l = [] := by
      rcases l with _ | ⟨x, l⟩
      · rfl
      · obtain ⟨b, off, e, _⟩ := hR.get (i := 0) (by simp)
        cases e
    subst hl
    refine ⟨v, w, ?_, by simpa [evs] using hown, World.grownBy.refl w _, .inl rfl⟩
    rcases hown.2 with ⟨rfl, rfl⟩ | ⟨g, cap, cur, rfl, _, _, hnc, _⟩
    · simp [Builtin.append_, run_underlying ht, sizeOf, typeInfo, hi, Builtin.lenOf, Builtin.firstCells]
    · simp [Builtin.append_, run_underlying ht, sizeOf, typeInfo, hi, Builtin.lenOf, Builtin.firstCells, hnc, storeCells]
  · obtain ⟨v', w', hr, h2, h3, _, h5⟩ := run_append_own_at (P := P) w base t ty e i z 3 bytes ht hi hz hsize hby hzs (by omega) v n xs hown ad l.length c (evs l) (evs_length l) (cells_of_re hR) (evs_one l) h63 hbytes hbase
    exact ⟨v', w', hr, h2, h3, h5⟩
theorem wp_append_re {o : Oper} {a : Act} {K : Act → World → Prop} {Q : Exit → Act → World → Prop} (s x : Operand) (t : TypeId)
    (ho : o.op = .call { callee := .builtin .append, args := #[s, x], argTypes := #[t, t] })
    (base : Nat) (e : TypeId) (i : TypeInfo) (z : Value) (bytes : Nat) (ht : P.underlying t = some (.slice e)) (hi : P.info? e = some i) (hz : i.zero = some z)
    (hsize : i.size = 3) (hby : i.bytes = bytes) (hzs : z.cells.size = 3)
    (v : Value) (n : Nat) (xs : List Value) (hs : a.eval s = v) (hown : w.ownsRow base e 3 v n xs) (A : Option Addr) (l : List Ev) (c B : Nat) (hx : a.eval x = .slice A l.length c) (hR : RdE w B A l)
    (h63 : n + l.length ≤ maxLen) (hbytes : (n + l.length) * bytes ≤ 140737488355328) (hbase : base ≤ w.heap.size)
    (h : ∀ v' w', w'.ownsRow base e 3 v' (n + l.length) (xs ++ evs l) → w.grownBy w' v.ownBlock → (v'.ownBlock = v.ownBlock ∨ v'.ownBlock = some w.heap.size) → K (a.put o.dst v') w') : o.wp P a w K Q := by
  obtain ⟨v', w', hr, h2, h3, h5⟩ := run_append_re (P := P) w base t o.type e i z bytes ht hi hz hsize hby hzs v n xs hown A l c B hR h63 hbytes hbase
  unfold Oper.wp execOp
  simp only [ho, resolve, invoke, builtin, Sem.run_bind, Sem.run_pure, Result.andThen_ok, List.map_toArray, List.map_cons, List.map_nil, hs, hx, hr]
  exact h v' w' h2 h3 h5
/-- The same at a guarded operation of a region that draws its order. -/
theorem step_append_re {ops : Array Oper} {o : Oper} {a : Act} {K : Act → World → Prop} {Q : Exit → Act → World → Prop} {E : Prop} (hw : Region.wanted o (yielded ops a.tmps) = true) (s x : Operand) (t : TypeId)
    (ho : o.op = .call { callee := .builtin .append, args := #[s, x], argTypes := #[t, t] })
    (base : Nat) (e : TypeId) (i : TypeInfo) (z : Value) (bytes : Nat) (ht : P.underlying t = some (.slice e)) (hi : P.info? e = some i) (hz : i.zero = some z)
    (hsize : i.size = 3) (hby : i.bytes = bytes) (hzs : z.cells.size = 3)
    (v : Value) (n : Nat) (xs : List Value) (hs : a.eval s = v) (hown : w.ownsRow base e 3 v n xs) (A : Option Addr) (l : List Ev) (c B : Nat) (hx : a.eval x = .slice A l.length c) (hR : RdE w B A l)
    (h63 : n + l.length ≤ maxLen) (hbytes : (n + l.length) * bytes ≤ 140737488355328) (hbase : base ≤ w.heap.size)
    (h : ∀ v' w', w'.ownsRow base e 3 v' (n + l.length) (xs ++ evs l) → w.grownBy w' v.ownBlock → (v'.ownBlock = v.ownBlock ∨ v'.ownBlock = some w.heap.size) → K (a.put o.dst v') w') :
    if Region.wanted o (yielded ops a.tmps) = true then Oper.wp P o a w K Q else E := by
  rw [if_pos hw]
  exact wp_append_re w s x t ho base e i z bytes ht hi hz hsize hby hzs v n xs hs hown A l c B hx hR h63 hbytes hbase h
end
end Go.Proofs.YtnnfkmjhaljplaaGreatDoor
