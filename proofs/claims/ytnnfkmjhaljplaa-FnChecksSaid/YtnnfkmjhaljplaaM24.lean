/- What the laws' walks rest upon, part 24. -/
import Derived.Test.YtnnfkmjhaljplaaM04
import Derived.StillTailTactics
import Derived.Lib.Hide
import Derived.Laws.Externs
import Derived.Lib.Overlaps
import Derived.Test.YtnnfkmjhaljplaaM13
import Derived.Test.YtnnfkmjhaljplaaM07
import Derived.Deep.RegionHeld3
import Derived.Deep.DeepCutAuto
import Derived.BigQuiet
import Derived.OneCell
import Derived.Test.YtnnfkmjhaljplaaM23
import Derived.Test.YtnnfkmjhaljplaaM02
import Derived.Deep.QuietTactic
import Derived.WalkKit
import Derived.Test.YtnnfkmjhaljplaaM11
import Derived.Test.YtnnfkmjhaljplaaM06
import Derived.Test.YtnnfkmjhaljplaaM12
namespace Go.Proofs.Ytnnfkmjhaljplaa
open Go.RowKit
end Go.Proofs.Ytnnfkmjhaljplaa
namespace Go.Proofs.Ytnnfkmjhaljplaa
open Go.RowKit
end Go.Proofs.Ytnnfkmjhaljplaa
namespace Go.Proofs.Ytnnfkmjhaljplaa
open Go.RowKit
/-- Only the blocks S are turned; there may be more memory. -/
structure But (S : Nat → Prop) (w w' : World) : Prop where
 os : w'.os = w.os
 tape : w'.tape = w.tape
 output : w'.output = w.output
 size : w.heap.size ≤ w'.heap.size
 block : ∀ k, k < w.heap.size → ¬ S k → w'.heap[k]? = w.heap[k]?
section
variable {S S' : Nat → Prop} {a b c w w' : World}
theorem But.refl (S : Nat → Prop) (w : World) : But S w w := ⟨rfl, rfl, rfl, Nat.le_refl _, fun _ _ _ => rfl⟩
theorem But.trans (h : But S a b) (k : But S' b c) (hs : ∀ x, S' x → S x ∨ a.heap.size ≤ x) : But S a c :=
 ⟨k.os.trans h.os, k.tape.trans h.tape, k.output.trans h.output, Nat.le_trans h.size k.size, fun x hx hn => (k.block x (Nat.lt_of_lt_of_le hx h.size) (fun e => by rcases hs x e with e | e; exact hn e; omega)).trans (h.block x hx hn)⟩
theorem But.of_below (h : Below w.heap.size w w') : But S w w' := ⟨h.os, h.tape, h.output, h.size, fun k hk _ => h.block k hk⟩
theorem But.of_grown {row : Option Nat} (h : w.grownBy w' row) (hs : ∀ b, row = some b → S b) : But S w w' := ⟨h.os, h.tape, h.output, h.size, fun k hk hn => h.block k hk (fun e => hn (hs k e.symm))⟩
theorem But.mono (h : But S w w') (hs : ∀ x, x < w.heap.size → S x → S' x) : But S' w w' := ⟨h.os, h.tape, h.output, h.size, fun k hk hn => h.block k hk (fun e => hn (hs k hk e))⟩
theorem But.below (h : But S w w') {B : Nat} (hB : B ≤ w.heap.size) (hs : ∀ x, S x → B ≤ x) : Below B w w' := ⟨h.os, h.tape, h.output, h.size, fun k hk => h.block k (by omega) (fun e => by have := hs k e; omega)⟩
theorem But.bk (h : But S w w') {g : Nat} {cs : Array Value} {t : TypeId} (hk : Bk w g cs t) (hg : ¬ S g) : Bk w' g cs t := (h.block g hk.lt hg).trans hk
theorem But.own (h : But S w w') {base n size : Nat} {e : TypeId} {v : Value} {xs : List Value} (ho : w.ownsRow base e size v n xs) (hv : ∀ b, v.ownBlock = some b → ¬ S b) : w'.ownsRow base e size v n xs := by
 refine ⟨ho.1, ?_⟩
 rcases ho.2 with h1 | ⟨g, cap, cur, rfl, h2, h3, h4⟩
 ·exact .inl h1
 ·refine .inr ⟨g, cap, cur, rfl, h2, ?_, h4⟩
  rw [h.block g (by have : Bk w g cur e := h3; exact this.lt) (hv g rfl)]
  exact h3
theorem But.cell (h : But S w w') {p : Addr} (hp : p.block < w.heap.size) (hs : ¬ S p.block) : w'.cell? p = w.cell? p := World.cell?_of_block (h.block p.block hp hs)
theorem But.frozen (h : But S w w') {p : Addr} (hp : p.block < w.heap.size) (hs : ¬ S p.block) : w'.frozen? p = w.frozen? p := World.frozen?_of_block (h.block p.block hp hs)
theorem But.set_ (h : But S a b) {g : Nat} (hg : S g) (i : Nat) (u : Value) : But S a (b.setCell ⟨g, i, none⟩ u) := h.trans (S' := S) (But.of_grown (grown_set b g i u) fun x e => by cases e; exact hg) fun _ e => .inl e
end
end Go.Proofs.Ytnnfkmjhaljplaa
namespace Go.Proofs.Ytnnfkmjhaljplaa
open Go.RowKit
end Go.Proofs.Ytnnfkmjhaljplaa
namespace Go.Proofs.Ytnnfkmjhaljplaa
open Go.RowKit
end Go.Proofs.Ytnnfkmjhaljplaa
namespace Go.Proofs.Ytnnfkmjhaljplaa
open Go.RowKit
theorem read_drop (l : List Cel) (i : Nat) (h : i < l.length) (a : Int) : readM (l.drop i) a = if l[i].a = a then l[i].v else readM (l.drop (i + 1)) a := by
 rw [List.drop_eq_getElem_cons h, readM]
theorem l7Read_any (l : List Cel) (A : Option Addr) (c : Nat) (a : Int) (w : World) (hm : l.length ≤ maxLen) (h : RdC w w.heap.size A l) :
  Calls Try.prog 131 #[.slice A l.length c, .int .i64 a] w fun e w' => e = .returned (.int .i64 (readM l a)) ∧ w = w' := by
 unfold maxLen at hm
 go_enter Try.func131, Try.ntmps131
 go_wp2
 go_loop [8] (fun i => ∃ k : Nat, k ≤ l.length ∧ i = .int .i64 k ∧ Hid (readM l a = readM (l.drop k) a)) (fun i => l.length - (intOf i).toNat)
 case atStart => exact ⟨0, Nat.zero_le _, rfl, hide rfl⟩
 case round =>
  obtain ⟨k, hk, rfl, HR⟩ := hrel
  by_cases hlt : k < l.length
  ·obtain ⟨b, off, rfl, hbb, hc0, hc1⟩ := h.get hlt
   have hd := read_drop l k hlt a
   by_cases he : l[k].a = a
   ·rw [if_pos he] at hd
    have HD := hide hd
    have f0 : (l[k].a == a) = true := beq_iff_eq.2 he
    clear hd he
    go_wp2
    go_ret
    exact ⟨ret_int (by rw [HR.out, HD.out]), rfl⟩
   ·rw [if_neg he] at hd
    have HD := hide hd
    have f0 : (l[k].a == a) = false := beq_eq_false_iff_ne.2 he
    clear hd he
    go_wp2
    go_round
    case rel => exact ⟨k + 1, by omega, by go_num, hide (HR.out.trans HD.out)⟩
    case measure => simp [intOf]; omega
  ·have hd : readM (l.drop k) a = 0 := by rw [List.drop_eq_nil_of_le (by omega)]; rfl
   have HD := hide hd
   clear hd
   go_wp2
   go_ret
   exact ⟨ret_int (by rw [HR.out, HD.out]), rfl⟩
end Go.Proofs.Ytnnfkmjhaljplaa
namespace Go.Proofs.Ytnnfkmjhaljplaa
open Go.RowKit

end Go.Proofs.Ytnnfkmjhaljplaa
namespace Go.Proofs.Ytnnfkmjhaljplaa
open Go.RowKit
end Go.Proofs.Ytnnfkmjhaljplaa
namespace Go.Proofs.Ytnnfkmjhaljplaa
open Go.RowKit
theorem cells_one1 (w : World) (x : Value) (T : TypeId) : ∀ j u, [x][j]? = some u → (w.alloc (.cells #[x] T)).cell? ((⟨w.heap.size, 0, none⟩ : Addr).add j) = some u := by
 intro j u hj
 rw [Go.WideShapes.add_plain, Nat.zero_add, (Bk.new w #[x] T).cell j]
 simpa using hj
theorem OwnTLine.freshL {w w2 : World} {base n : Nat} {v u : Value} {t : List (List Ev)} {us : List Value} {xs : List Value} (h : OwnTLine w base v t us) (hu : w2.ownsRow w.heap.size 191 3 u n xs) : ∀ b, u.ownBlock = some b → v.ownBlock ≠ some b ∧ ∀ (i : Nat) (u' : Value), us[i]? = some u' → u'.ownBlock ≠ some b := by
 intro b hb
 have h1 := hu.lt b hb
 refine ⟨fun e => by have := h.row.lt b e; omega, fun i u' hu' e => ?_⟩
 obtain ⟨_, h2, _⟩ := h.at_ hu'
 have := h2.lt b e
 omega
theorem OwnTLine.set7 {w : World} {base b i : Nat} {v : Value} {t : List (List Ev)} {us : List Value} (h : OwnTLine w base v t us) (hb : b < base) (x : Value) : OwnTLine (w.setCell ⟨b, i, none⟩ x) base v t us := h.kept (grown_set w b i x) (fun y e => by cases e; exact hb)
end Go.Proofs.Ytnnfkmjhaljplaa
namespace Go.Proofs.Ytnnfkmjhaljplaa
open Go.RowKit
/-- append of a row at a guarded operation of a region that draws its order. -/
theorem step_append_at {P : Program} (w : World) {ops : Array Oper} {o : Oper} {a : Act} {K : Act → World → Prop} {Q : Exit → Act → World → Prop} {E : Prop} (hw : Region.wanted o (yielded ops a.tmps) = true) (s x : Operand) (t : TypeId)
  (ho : o.op = .call { callee := .builtin .append, args := #[s, x], argTypes := #[t, t] })
  (base : Nat) (e : TypeId) (i : TypeInfo) (z : Value) (size bytes : Nat) (ht : P.underlying t = some (.slice e)) (hi : P.info? e = some i) (hz : i.zero = some z)
  (hsize : i.size = size) (hby : i.bytes = bytes) (hzs : z.cells.size = size) (hsz : 0 < size)
  (v : Value) (n : Nat) (xs : List Value) (hs : a.eval s = v) (hown : w.ownsRow base e size v n xs)
  (ad : Addr) (m c : Nat) (news : List Value) (hx : a.eval x = .slice (some ad) m c) (hl : news.length = m * size) (hnews : ∀ j u, news[j]? = some u → w.cell? (ad.add j) = some u) (h1 : ∀ u ∈ news, u.oneCell' = true)
  (h63 : n + m ≤ maxLen) (hbytes : (n + m) * bytes ≤ 140737488355328) (hbase : base ≤ w.heap.size)
  (h : ∀ v' w', w'.ownsRow base e size v' (n + m) (xs ++ news) → w.grownBy w' v.ownBlock → (v'.ownBlock = v.ownBlock ∨ v'.ownBlock = some w.heap.size) → K (a.put o.dst v') w') :
  if Region.wanted o (yielded ops a.tmps) = true then Oper.wp P o a w K Q else E := by
 rw [if_pos hw]
 obtain ⟨v', w', hr, h2, h3, _, h5⟩ := run_append_own_at (P := P) w base t o.type e i z size bytes ht hi hz hsize hby hzs hsz v n xs hown ad m c news hl hnews h1 h63 hbytes hbase
 unfold Oper.wp execOp
 simp only [ho, resolve, invoke, builtin, Sem.run_bind, Sem.run_pure, Result.andThen_ok, List.map_toArray, List.map_cons, List.map_nil, hs, hx, hr]
 exact h v' w' h2 h3 h5


end Go.Proofs.Ytnnfkmjhaljplaa
namespace Go.Proofs.Ytnnfkmjhaljplaa
open Go.RowKit

end Go.Proofs.Ytnnfkmjhaljplaa
namespace Go.Proofs.Ytnnfkmjhaljplaa
open Go.RowKit
end Go.Proofs.Ytnnfkmjhaljplaa
namespace Go.Proofs.Ytnnfkmjhaljplaa
open Go.RowKit
end Go.Proofs.Ytnnfkmjhaljplaa
namespace Go.Proofs.Ytnnfkmjhaljplaa
open Go.RowKit
end Go.Proofs.Ytnnfkmjhaljplaa
namespace Go.Proofs.Ytnnfkmjhaljplaa
open Go.RowKit
/-- What NewMachine tells, as mathematics. -/
def newOk (a b : Int) : Prop := (1 ≤ a ∧ a ≤ 4) ∧ (1 ≤ b ∧ b ≤ 4)
instance (a b : Int) : Decidable (newOk a b) := by unfold newOk; infer_instance
theorem OwnTLine.nil_ (w : World) (base : Nat) : OwnTLine w base (.slice none 0 0) [] [] := ⟨World.ownsRow_nil _ _ _ _, fun i hi => by simp at hi, fun i j u u' _ hu => by simp at hu⟩
theorem OwnMac.nil_ (w : World) (base : Nat) : OwnMac w base (.slice none 0 0) (.slice none 0 0) ⟨[], []⟩ [] := ⟨OwnTLine.nil_ w base, World.ownsRow_nil _ _ _ _, fun b e => by cases e⟩
theorem made_line (n : Nat) : (madeCells (Value.agg #[.int .i64 0, .int .i64 0, .int .i64 0]).cells (n * 3)).toList = evs (List.replicate n lnZ) := by rw [made_event, ← evs_zero]; rfl
end Go.Proofs.Ytnnfkmjhaljplaa
namespace Go.Proofs.Ytnnfkmjhaljplaa
open Go.RowKit
/-- A new row lies where the world ended: so it is own from there on. -/
theorem own_new {w w' : World} {base : Nat} {e : TypeId} {size n cap : Nat} {xs : List Value} (h : w'.ownsRow base e size (.slice (some ⟨w.heap.size, 0, none⟩) n cap) n xs) : w'.ownsRow w.heap.size e size (.slice (some ⟨w.heap.size, 0, none⟩) n cap) n xs := by
 obtain ⟨h1, h2⟩ := h
 refine ⟨h1, ?_⟩
 rcases h2 with h2 | ⟨g, cp, cur, hv, hb, hr⟩
 ·exact .inl h2
 ·refine .inr ⟨g, cp, cur, hv, ?_, hr⟩
  simp only [Value.slice.injEq, Option.some.injEq, Addr.mk.injEq] at hv
  omega
/-- make of a row at an operation of a region that draws its order. -/
theorem step_make_full {P : Program} (w : World) {ops : Array Oper} {o : Oper} {a : Act} {K : Act → World → Prop} {Q : Exit → Act → World → Prop} {E : Prop} (hw : Region.wanted o (yielded ops a.tmps) = true)
  (l c : Operand) (t : TypeId) (hop : o.op = Op.makeSlice t l c)
  (base : Nat) (e : TypeId) (i : TypeInfo) (z : Value) (size : Nat) (h1 : P.underlying t = some (.slice e)) (h2 : P.info? e = some i) (h3 : i.zero = some z) (h4 : i.size = size)
  (kl kc : IntKind) (L C : Int) (n : Nat) (hl : a.eval l = .int kl L) (hc : a.eval c = .int kc C) (hL : L = (n : Int)) (hC : C = (n : Int)) (b2 : i.bytes * n ≤ 281474976710656) (b3 : n ≤ maxLen) (b4 : base ≤ w.heap.size)
  (hK : ∀ w', w'.ownsRow base e size (.slice (some ⟨w.heap.size, 0, none⟩) n n) n (madeCells z.cells (n * size)).toList → w.grownBy w' none → K (a.put o.dst (.slice (some ⟨w.heap.size, 0, none⟩) n n)) w') :
  if Region.wanted o (yielded ops a.tmps) = true then Oper.wp P o a w K Q else E := by
 rw [if_pos hw]
 obtain ⟨w', hrun, r1, r2⟩ := run_make_full (P := P) w base t e i z size h1 h2 h3 h4 kl kc n b2 b3 b4
 subst hL
 subst hC
 unfold Oper.wp
 simp [execOp, hop, hl, hc, hrun, Result.andThen]
 exact hK w' r1 r2
set_option maxRecDepth 100000 in
set_option maxHeartbeats 1600000 in
theorem l7New_any (n L : Nat) (w : World) (hn : n ≤ 4) (hL : L ≤ 4) :
  Calls Try.prog 111 #[.int .i64 n, .int .i64 L] w fun e w' => ∃ A c us, e = .returned (macV A n c none 0 0) ∧ OwnMac w' w.heap.size (.slice A n c) (.slice none 0 0) (newM n L) us ∧ Below w.heap.size w w' := by
 obtain ⟨i0, hi, hz0, hz1, hz2⟩ := info_parts info_line
 obtain ⟨j0, hj, hy0, hy1, hy2⟩ := info_parts info_lines
 obtain ⟨W, hW⟩ : ∃ W, W = (w.alloc (Obj.cells #[.slice none 0 0, .slice none 0 0] 120)).alloc (Obj.cells #[.slice none 0 0, .slice none 0 0] 120) := ⟨_, rfl⟩
 obtain ⟨k1, k2, hz, B0⟩ := two_new _ _ _ _ _ W hW
 have oT : OwnTLine W (w.heap.size + 1 + 1) (.slice none 0 0) (List.replicate 0 (List.replicate L lnZ)) [] := OwnTLine.nil_ _ _
 have HW := hide hW
 clear hW
 obtain ⟨q, hq⟩ : ∃ q, q = w.heap.size := ⟨_, rfl⟩
 have HQ := hide hq
 rw [← hq] at k1 k2 B0 oT
 have hzq : W.heap.size = q + 1 + 1 := by omega
 clear hq hz
 go_enter Try.func111, Try.ntmps111
 go_wp2_with fail
 rw [← HW.out, ← HQ.out]
 go_loopw [6] (fun s wr => ∃ (k : Nat) (v : Value) (us : List Value), k ≤ n ∧ s = .int .i64 k ∧ OwnTLine wr (q + 1 + 1) v (List.replicate k (List.replicate L lnZ)) us ∧ Bk wr q #[.slice none 0 0, .slice none 0 0] 120 ∧ Bk wr (q + 1) #[v, .slice none 0 0] 120 ∧ Below q w wr) (fun s _ => n - (intOf s).toNat)
 case atStart => exact ⟨0, _, _, Nat.zero_le _, rfl, oT, k1, k2, B0⟩
 case round =>
  clear oT k1 k2 B0 hzq
  obtain ⟨k, v, us, hk, rfl, ot, k1, k2, hb⟩ := hrel
  by_cases hlt : k < n
  ·have orow := ot.row
   rw [List.length_replicate] at orow
   obtain ⟨Ao, co, rfl⟩ := own_shape orow
   go_wp2_with fail
   have s0 : wr.drew.cell? ⟨q + 1, 0, none⟩ = some (.slice Ao k co) := (k2.cell 0).trans rfl
   have ot1 : OwnTLine wr.drew (q + 1 + 1) (.slice Ao k co) (List.replicate k (List.replicate L lnZ)) us := ot.below (Below.refl _ _).drew
   have k11 : Bk wr.drew q #[.slice none 0 0, .slice none 0 0] 120 := k1
   have k21 : Bk wr.drew (q + 1) #[.slice Ao k co, .slice none 0 0] 120 := k2
   have hb1 : Below q w wr.drew := hb.drew
   have hz1' := k21.lt
   clear ot k1 k2 hb orow
   refine wp_region_F 5 (fun w' => True) (fun w' => w'.cell? ⟨q + 1, 0, none⟩ = some (Value.slice Ao k co)) (by kernel_rfl) ⟨trivial, s0⟩ (fun hHeld => ?_)
   try simp only [Act.put, List.setIfInBounds_toArray, List.set_cons_zero, List.set_cons_succ]
   clear s0
   generalize wr.drew = Z at *
   refine wpAnyF_take (i := 0) (v := ?_) (by (simp only [List.getElem?_toArray, List.getElem?_cons_zero]; rfl)) (by kernel_rfl) (by kernel_rfl) (by kernel_rfl) (by decide) (by exact fun _ _ _ h => h) ⟨hHeld.1, .inr hHeld.2⟩ (Or.inl ⟨by rfl, ?_⟩) ?_
   rotate_left
   ·(intro w' _; go_simp <;> with_reducible rfl)
   try simp only [Act.put, List.setIfInBounds_toArray, List.set_cons_zero, List.set_cons_succ]
   refine wpAnyF_load (i := 1) (v := ?_) (by (simp only [List.getElem?_toArray, List.getElem?_cons_succ, List.getElem?_cons_zero]; rfl)) (by kernel_rfl) (by kernel_rfl) (by kernel_rfl) (by decide) (by exact fun _ _ _ h => h) hHeld (by kernel_rfl) (by kernel_rfl) (Or.inl ⟨by rfl, ?_⟩) ?_
   rotate_left
   ·(intro w' hSw; (try dsimp only at hSw); obtain hSb0 := hSw; go_simp <;> with_reducible rfl)
   try simp only [Act.put, List.setIfInBounds_toArray, List.set_cons_zero, List.set_cons_succ]
   refine wpAnyF_take (i := 2) (v := ?_) (by (simp only [List.getElem?_toArray, List.getElem?_cons_succ, List.getElem?_cons_zero]; rfl)) (by kernel_rfl) (by kernel_rfl) (by kernel_rfl) (by decide) (by exact fun _ _ _ h => h) ⟨hHeld.1, .inr hHeld.2⟩ (Or.inl ⟨by rfl, ?_⟩) ?_
   rotate_left
   ·(intro w' _; go_simp <;> with_reducible rfl)
   try simp only [Act.put, List.setIfInBounds_toArray, List.set_cons_zero, List.set_cons_succ]
   refine wpAnyF_ready (rs := [3]) (by kernel_rfl) (by simp) ?_
   refine AllReadyF.cons (by (simp only [List.getElem?_toArray, List.getElem?_cons_succ, List.getElem?_cons_zero]; rfl)) (fun K hK => ?_) AllReadyF.nil
   refine step_make_full _ (by rfl) (.tmp 15) (.tmp 15) 188 (by rfl) (q + 1 + 1) 191 i0 (.agg #[.int .i64 0, .int .i64 0, .int .i64 0]) 3 Try.underlying188 hi hz0 hz1 .i64 .i64 _ _ L (by rfl) (by rfl) rfl rfl (by rw [hz2]; omega) (by unfold maxLen; omega) (by omega) ?_
   intro w3 o3 g3
   rw [made_line] at o3
   have b3 : Below Z.heap.size Z w3 := (Below.refl _ _).grown g3 (Nat.le_refl _) (by simp)
   have o3' : w3.ownsRow Z.heap.size 191 3 (.slice (some ⟨Z.heap.size, 0, none⟩) L L) L (evs (List.replicate L lnZ)) := by have h1 := o3; exact own_new h1
   have k13 := k11.kept b3
   have k23 := k21.kept b3
   have ot3 := ot1.below b3
   have hf3 := ot1.freshL o3'
   have hb3 := hb1.trans (b3.mono (by omega))
   have hz3 := k23.lt
   refine hK.out _ _ ⟨trivial, ((k23.cell 0).trans rfl)⟩ (fun hNew => ?_)
   clear hK K hHeld
   have hHeld := hNew
   clear hNew
   try simp only [Act.put, List.setIfInBounds_toArray, List.set_cons_zero, List.set_cons_succ]
   clear k11 k21 ot1 hb1 b3
   refine wpAnyF_ready (rs := [4]) (by kernel_rfl) (by simp) ?_
   refine AllReadyF.cons (by (simp only [List.getElem?_toArray, List.getElem?_cons_succ, List.getElem?_cons_zero]; rfl)) (fun K hK => ?_) AllReadyF.nil
   go_simp
   have k14 := k13.alloc (Obj.cells #[.slice (some ⟨Z.heap.size, 0, none⟩) L L] 188)
   have k24 := k23.alloc (Obj.cells #[.slice (some ⟨Z.heap.size, 0, none⟩) L L] 188)
   have ot4 := ot3.alloc (Obj.cells #[.slice (some ⟨Z.heap.size, 0, none⟩) L L] 188)
   have hb4 := hb3.alloc (by omega) (Obj.cells #[.slice (some ⟨Z.heap.size, 0, none⟩) L L] 188)
   have o4 := o3.alloc (Obj.cells #[.slice (some ⟨Z.heap.size, 0, none⟩) L L] 188)
   have orow := ot4.row
   rw [List.length_replicate] at orow
   have hzz : (w3.alloc (Obj.cells #[.slice (some ⟨Z.heap.size, 0, none⟩) L L] 188)).heap.size = w3.heap.size + 1 := by simp
   refine hK.out _ _ ⟨trivial, ((k24.cell 0).trans rfl)⟩ (fun hNew => ?_)
   clear hK K hHeld
   have hHeld := hNew
   clear hNew
   try simp only [Act.put, List.setIfInBounds_toArray, List.set_cons_zero, List.set_cons_succ]
   clear k13 k23 ot3 hb3 o3 o3'
   refine wpAnyF_ready (rs := [5]) (by kernel_rfl) (by simp) ?_
   refine AllReadyF.last (by (simp only [List.getElem?_toArray, List.getElem?_cons_succ, List.getElem?_cons_zero]; rfl)) (by kernel_rfl) (fun K hK => ?_) AllReadyF.nil
   refine step_append_at _ (by rfl) (.tmp 14) (.tmp 17) 117 (by rfl) (q + 1 + 1) 188 j0 (.slice none 0 0) 1 24 Try.underlying117 hj hy0 hy1 hy2 rfl (by decide) (.slice Ao k co) k us (by rfl) orow ⟨w3.heap.size, 0, none⟩ 1 1 [.slice (some ⟨Z.heap.size, 0, none⟩) L L] (by rfl) rfl (cells_one1 _ _ _) (by intro u hu; rw [List.mem_singleton] at hu; rw [hu]; rfl) (by unfold maxLen; omega) (by omega) (by omega) ?_
   intro v5 w5 o5 g5 hat5
   have hP := ot4.push (es := List.replicate L lnZ) (by rw [List.length_replicate]; exact o4) hf3 (by rw [List.length_replicate]; exact o5) g5 hat5
   rw [← List.replicate_succ'] at hP
   have k25 := k24.grown g5 (fun e => by have := orow.lt _ e.symm; omega)
   have k15 := k14.grown g5 (fun e => by have := orow.lt _ e.symm; omega)
   have hb5 := hb4.trans (grown_below (B := q) orow g5 (by omega) (by omega))
   obtain ⟨A5, c5, hv5⟩ := own_shape o5
   subst hv5
   have f5 := k25.frozen 0
   have e5 := (k25.cell 0).trans (rfl : _ = some (Value.slice Ao k co))
   have H5 := hide (show OwnTLine (w5.setCell ⟨q + 1, 0, none⟩ (.slice A5 (k + 1) c5)) (q + 1 + 1) (.slice A5 (k + 1) c5) (List.replicate (k + 1) (List.replicate L lnZ)) (us ++ [.slice (some ⟨Z.heap.size, 0, none⟩) L L]) ∧ Bk (w5.setCell ⟨q + 1, 0, none⟩ (.slice A5 (k + 1) c5)) q #[.slice none 0 0, .slice none 0 0] 120 ∧ Bk (w5.setCell ⟨q + 1, 0, none⟩ (.slice A5 (k + 1) c5)) (q + 1) #[.slice A5 (k + 1) c5, .slice none 0 0] 120 ∧ Below q w (w5.setCell ⟨q + 1, 0, none⟩ (.slice A5 (k + 1) c5)) from ⟨hP.set7 (by omega) _, k15.far (p := ⟨q + 1, 0, none⟩) (by simp only; omega) _, by have := k25.set_ 0 (.slice A5 (k + 1) c5); simpa using this, hb5.setCell (by simp only; omega) _⟩)
   clear o5 g5 hat5 hP k25 k15 hb5 k14 k24 ot4 hb4 o4
   refine hK.out _ _ trivial ?_
   clear hK K
   try simp only [Act.put, List.setIfInBounds_toArray, List.set_cons_zero, List.set_cons_succ]
   refine wpAnyF_take (i := 6) (v := ?_) (by (simp only [List.getElem?_toArray, List.getElem?_cons_succ, List.getElem?_cons_zero]; rfl)) (by kernel_rfl) (by kernel_rfl) (by kernel_rfl) (by decide) (by exact fun _ _ _ h => h) ⟨trivial, .inl (by kernel_rfl)⟩ (Or.inl ⟨by rfl, ?_⟩) ?_
   rotate_left
   ·(intro w' _; go_simp <;> with_reducible rfl)
   try simp only [Act.put, List.setIfInBounds_toArray, List.set_cons_zero, List.set_cons_succ]
   refine wpAnyF_ready (rs := [7]) (by kernel_rfl) (by simp) ?_
   refine AllReadyF.last (by (simp only [List.getElem?_toArray, List.getElem?_cons_succ, List.getElem?_cons_zero]; rfl)) (by kernel_rfl) (fun K hK => ?_) AllReadyF.nil
   go_simp
   refine hK.out _ _ trivial ?_
   clear hK K
   try simp only [Act.put, List.setIfInBounds_toArray, List.set_cons_zero, List.set_cons_succ]
   refine wpAnyF_done (by kernel_rfl) ?_ _
   go_wp2
   go_roundw
   case rel => exact ⟨k + 1, _, _, by omega, by go_num, H5.out⟩
   case measure => simp [intOf]; omega
  ·obtain rfl : k = n := by omega
   have orow := ot.row
   rw [List.length_replicate] at orow
   obtain ⟨Ao, co, rfl⟩ := own_shape orow
   have y0 := (k2.cell 0).trans (rfl : _ = some (Value.slice Ao k co))
   have y1 := (k2.cell 1).trans (rfl : _ = some (Value.slice none 0 0))
   have z0 := (k1.cell 0).trans (rfl : _ = some (Value.slice none 0 0))
   have z1 := (k1.cell 1).trans (rfl : _ = some (Value.slice none 0 0))
   have f0 := k1.frozen 0
   have f1 := k1.frozen 1
   have HOT := hide ot
   have HB := hide hb
   clear ot hb k1 k2 orow
   go_wp2
   refine bodyPost_ret (v := macV Ao k co none 0 0) (by simp [results, Try.results111, go_sem, z0, z1]) rfl ?_
   rw [← HQ.out]
   refine ⟨Ao, co, us, rfl, ⟨?_, World.ownsRow_nil _ _ _ _, fun b e => by cases e⟩, (HB.out.setCell (Nat.le_refl _) _).setCell (Nat.le_refl _) _⟩
   exact ((HOT.out.set7 (by omega) _).set7 (by omega) _).mono (by omega)
end Go.Proofs.Ytnnfkmjhaljplaa
