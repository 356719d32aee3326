/- Numbers as texts: decimal digits. Texts of numbers and events: HexOf, l5Event, EventText of the document. EventText of the document. A trace's text: l5Print, PrintTrace of the document. -/
import Derived.Test.YtmdaianbhpppfaaGreatDoorGTxA
import Derived.Deep.RegionWith
import Derived.IntWalk
import Derived.Test.YtmdaianbhpppfaaGreatDoorGEv
import Derived.Test.YtmdaianbhpppfaaGreatDoorGTrS
namespace Go.Proofs.YtmdaianbhpppfaaGreatDoor
open Go.RowKit

theorem dg_few {n : Nat} (h : n < 10) : dg n = 48 + n := by unfold dg; rw [if_pos h]
set_option maxRecDepth 100000 in
set_option maxHeartbeats 1600000 in
theorem l1Digits_any : ∀ (f n : Nat) (w : World), n < f → n < 10 ^ 18 →
    Calls Tryz.prog 55 #[.int .i64 n] w fun e w' => e = .returned (.string (strOfNums (digL 10 n))) ∧ Below w.heap.size w w'
  | 0, n, w, h, _ => by omega
  | f + 1, n, w, h, h' => by
    by_cases hn : n < 10
    · rw [digL_few hn, dg_few hn]
      have s0 : IntKind.i64.wrap (48 + (n : Int)) = 48 + n := IntWalk.i64_in _ (by omega)
      have s1 : IntKind.u8.wrap (48 + (n : Int)) = 48 + n := IntWalk.u8_in _ (by omega)
      have p0 := fun W : World => run_sbyte (P := Tryz.prog) Tryz.underlying22 Tryz.underlying5 Tryz.underlying9 (ty := 5) (48 + (n : Int)) W _ (Below.refl _ _)
      go_enter Tryz.func55, Tryz.ntmps55
      go_wp2
      go_ret
      exact ⟨rfl, by go_grown⟩
    · have hd : n / 10 < n := Nat.div_lt_self (by omega) (by omega)
      have hm := Nat.mod_lt n (show 0 < 10 by omega)
      have IH := fun w => l1Digits_any f (n / 10) w (by omega) (by omega)
      have e10 : ((n / 10 : Nat) : Int) = (n : Int) / 10 := by omega
      rw [e10] at IH
      have hl := digL_len (b := 10) (by omega) 17 (n / 10) (by omega)
      have HE := hide (digL_more (b := 10) (by omega) hn)
      have ed : dg (n % 10) = 48 + (n : Int) % 10 := by rw [dg_few hm]; omega
      have p2 := fun (w : World) => run_sadd (P := Tryz.prog) (l := digL 10 (n / 10)) (m := [dg (n % 10)]) (by simp only [List.length_cons, List.length_nil]; omega) w
      rw [← HE.out, ed] at p2
      generalize digL 10 (n / 10) = D at IH p2
      generalize digL 10 n = E at p2 ⊢
      clear HE ed hl e10
      have s1 : IntKind.i64.wrap ((n : Int) / 10) = (n : Int) / 10 := IntWalk.i64_in _ (by omega)
      have s0 : IntKind.i64.wrap (48 + (n : Int) % 10) = 48 + (n : Int) % 10 := IntWalk.i64_in _ (by omega)
      have s2 : IntKind.u8.wrap (48 + (n : Int) % 10) = 48 + (n : Int) % 10 := IntWalk.u8_in _ (by omega)
      have t0 : (n : Int).tmod 10 = (n : Int) % 10 := Int.tmod_eq_emod_of_nonneg (by omega)
      have E0 := hide (fun W W' : World => run_sbyte (P := Tryz.prog) Tryz.underlying22 Tryz.underlying5 Tryz.underlying9 (ty := 5) (48 + (n : Int) % 10) W W')
      have p0 := fun W : World => E0.out W _ (Below.refl _ _)
      have p1 := fun W : World => E0.out W _ (Below.refl _ _).drew
      go_enter Tryz.func55, Tryz.ntmps55
      go_wp2
      go_region_with (go_at_call 55; refine (IH _).mono ?_; rintro e w1 ⟨rfl, hb⟩; first | (have q0 : (convert 22 9 (.slice (some ⟨w.heap.size, 0, none⟩) 1 1)).run Tryz.prog w1 = .ok (.string (strOfNums [48 + (n : Int) % 10])) w1 := E0.out w.drew w1 hb) | (have q0 : (convert 22 9 (.slice (some ⟨w.heap.size, 0, none⟩) 1 1)).run Tryz.prog w1 = .ok (.string (strOfNums [48 + (n : Int) % 10])) w1 := E0.out w w1 ((Below.refl _ _).drew.trans hb)) | skip)
      all_goals
        go_wp2
        go_ret
        refine ⟨rfl, ?_⟩
        first
          | exact ((Below.refl _ w).drew.trans hb).alloc hb.size _
          | exact (((Below.refl _ w).alloc (Nat.le_refl _) _).drew.trans (hb.mono (by simp)))
          | exact (((Below.refl _ w).drew.alloc (Nat.le_refl _) _).trans (hb.mono (by simp)))
end Go.Proofs.YtmdaianbhpppfaaGreatDoor
namespace Go.Proofs.YtmdaianbhpppfaaGreatDoor
open Go.RowKit

theorem below_drewN {B : Nat} {a w : World} (h : Below B a w) (n : Nat) : Below B a (w.drewN n) := ⟨h.os, h.tape, h.output, h.size, h.block⟩
/-- An answer with a text. -/
abbrev txtV (c : Int) (l : List Int) : Value := .agg #[.int .i64 c, .string (strOfNums l)]
def hxC (n : Int) : Int := if 0 ≤ n ∧ n ≤ 999999 then 0 else 3
def hxL (n : Int) : List Int := if 0 ≤ n ∧ n ≤ 999999 then [48, 120] ++ digL 16 n.toNat else []
theorem HexOf_spec (n : Int) (w : World) :
    Calls Tryz.prog 18 #[.int .i64 n] w fun e w' => e = .returned (txtV (hxC n) (hxL n)) ∧ Below w.heap.size w w' := by
  by_cases h : 0 ≤ n ∧ n ≤ 999999
  · obtain ⟨N, rfl⟩ : ∃ N : Nat, n = N := ⟨n.toNat, by omega⟩
    have hC := fun w => l5Hex_any (N + 1) N w (by omega) (by omega)
    have hl := digL_len (b := 16) (by omega) 4 N (by omega)
    have p0 := fun w => run_sadd (P := Tryz.prog) (l := [48, 120]) (m := digL 16 N) (by simp only [List.length_cons, List.length_nil]; omega) w
    have e1 : hxC (N : Int) = 0 := by unfold hxC; rw [if_pos h]
    have e2 : hxL (N : Int) = [48, 120] ++ digL 16 N := by unfold hxL; rw [if_pos h, Int.toNat_natCast]
    rw [e1, e2]
    generalize [48, 120] ++ digL 16 N = E at p0 ⊢
    generalize digL 16 N = D at p0 hC
    have p1 : ∀ w, (Op.stringOp .add ({ data := #[48, 120] } : ByteArray) (strOfNums D)).run Tryz.prog w = .ok (.string (strOfNums E)) w := p0
    clear p0 hl e1 e2
    go_enter Tryz.func18, Tryz.ntmps18
    go_wp2_with fail
    refine (l1In_yes _ _ _ _ h).mono ?_
    rintro e w2 ⟨rfl, rfl⟩
    go_wp2_with fail
    refine (hC _).mono ?_
    rintro e w2 ⟨rfl, m, rfl⟩
    go_wp2
    go_returns
    exact ⟨rfl, ((below_drewN ((Below.refl _ w).alloc (Nat.le_refl _) _) m).setCell (Nat.le_refl _) _).setCell (Nat.le_refl _) _⟩
  · have e1 : hxC n = 3 := by unfold hxC; rw [if_neg h]
    have e2 : hxL n = [] := by unfold hxL; rw [if_neg h]
    rw [e1, e2]
    have h' : n < 0 ∨ 999999 < n := by omega
    clear h
    go_enter Tryz.func18, Tryz.ntmps18
    go_wp2_with fail
    refine (l1In_no _ _ _ _ h').mono ?_
    rintro e w2 ⟨rfl, rfl⟩
    go_wp2
    go_returns
    exact ⟨rfl, by go_grown⟩

theorem txE_parts (e : Ev) : txE e = [if e.k = 1 then 119 else 114] ++ [32, 48, 120] ++ digL 16 e.a.toNat ++ [32] ++ digL 10 e.v.toNat := by unfold txE; simp
theorem txE_length {e : Ev} (h : evF e = 0) : (txE e).length ≤ 16 := by
  have hv := evF_zero h
  have h1 := digL_len (b := 16) (by omega) 4 e.a.toNat (by omega)
  have h2 := digL_len (b := 10) (by omega) 5 e.v.toNat (by omega)
  unfold txE
  simp only [List.length_append, List.length_cons, List.length_nil]
  omega
theorem txE_B8 (e : Ev) : B8 (txE e) := by
  unfold txE
  refine B8.append (fun x hx => ?_) ((digL_B8 (by omega) (by omega) _).append (B8.append (fun x hx => ?_) (digL_B8 (by omega) (by omega) _)))
  · simp only [List.mem_cons, List.not_mem_nil, or_false] at hx
    rcases hx with h | h | h | h
    · rw [h]; split <;> omega
    all_goals omega
  · simp at hx; omega

set_option maxRecDepth 100000 in
set_option maxHeartbeats 3200000 in
/-- An event's text, of an event that lies in memory. -/
theorem l5Event_any (e : Ev) (b off : Nat) (w : World) (hF : evF e = 0) (hb : b < w.heap.size)
    (c0 : w.cell? ⟨b, off, none⟩ = some (.int .i64 e.k)) (c1 : w.cell? ⟨b, off + 1, none⟩ = some (.int .i64 e.a)) (c2 : w.cell? ⟨b, off + 2, none⟩ = some (.int .i64 e.v)) :
    Calls Tryz.prog 51 #[.pointer (some ⟨b, off, none⟩)] w fun r w' => r = .returned (.string (strOfNums (txE e))) ∧ Below w.heap.size w w' := by
  have hv := evF_zero hF
  have HL := txE_length hF
  obtain ⟨k, a, v⟩ := e
  simp only at c0 c1 c2 hv
  obtain ⟨a, rfl⟩ : ∃ N : Nat, a = N := ⟨a.toNat, by omega⟩
  obtain ⟨v, rfl⟩ : ∃ N : Nat, v = N := ⟨v.toNat, by omega⟩
  have HX := fun w => l5Hex_any (a + 1) a w (by omega) (by omega)
  have DG := fun w => l1Digits_any (v + 1) v w (by omega) (by omega)
  have hE := txE_parts ⟨k, a, v⟩
  simp only [Int.toNat_natCast] at hE
  rw [hE] at HL
  simp only [List.length_append, List.length_cons, List.length_nil] at HL
  have p1 := fun w => run_sadd (P := Tryz.prog) (l := [if k = 1 then 119 else 114]) (m := [32, 48, 120]) (by simp only [List.length_cons, List.length_nil]; omega) w
  have p2 := fun w => run_sadd (P := Tryz.prog) (l := [if k = 1 then 119 else 114] ++ [32, 48, 120]) (m := digL 16 a) (by simp only [List.length_append, List.length_cons, List.length_nil]; omega) w
  have p3 := fun w => run_sadd (P := Tryz.prog) (l := [if k = 1 then 119 else 114] ++ [32, 48, 120] ++ digL 16 a) (m := [32]) (by simp only [List.length_append, List.length_cons, List.length_nil]; omega) w
  have p4 := fun w => run_sadd (P := Tryz.prog) (l := [if k = 1 then 119 else 114] ++ [32, 48, 120] ++ digL 16 a ++ [32]) (m := digL 10 v) (by simp only [List.length_append, List.length_cons, List.length_nil]; omega) w
  rw [← hE] at p4
  generalize txE ⟨k, a, v⟩ = E at p4 hE ⊢
  generalize [if k = 1 then 119 else 114] ++ [32, 48, 120] ++ digL 16 a ++ [32] = X4 at p3 p4
  generalize [if k = 1 then 119 else 114] ++ [32, 48, 120] ++ digL 16 a = X3 at p2 p3
  generalize digL 16 a = D1 at p2 HX
  generalize digL 10 v = D2 at p4 DG
  clear HL hE hF
  have E1 := hide (fun W (hB : Below w.heap.size w W) => (hB.cell (p := ⟨b, off + 1, none⟩) hb).trans c1)
  have E2 := hide (fun W (hB : Below w.heap.size w W) => (hB.cell (p := ⟨b, off + 2, none⟩) hb).trans c2)
  obtain ⟨hk, _⟩ := hv
  by_cases h1 : k = 1
  · rw [if_pos h1] at p1 p2
    have q1 : ∀ w, (Op.stringOp .add ({ data := #[119] } : ByteArray) ({ data := #[32, 48, 120] } : ByteArray)).run Tryz.prog w = .ok (.string (strOfNums ([119] ++ [32, 48, 120]))) w := p1
    generalize ([119] ++ [32, 48, 120] : List Int) = X2 at q1 p2
    have q3 : ∀ w, (Op.stringOp .add (strOfNums X3) ({ data := #[32] } : ByteArray)).run Tryz.prog w = .ok (.string (strOfNums X4)) w := p3
    clear p1 p3 hk
    subst h1
    go_enter Tryz.func51, Tryz.ntmps51
    go_wp2
    go_region_with (first
      | (go_at_call 46; refine (HX _).mono ?_; rintro r wa ⟨rfl, ma, rfl⟩)
      | (go_at_call 55; refine (DG _).mono ?_; rintro r wb ⟨rfl, bb⟩; have hB : Below w.heap.size w wb := Below.trans (by first | exact (Below.refl _ w).drew | exact below_drewN (Below.refl _ w) _ | exact below_drewN (Below.refl _ w).drew _) (bb.mono (by simp)); have q5 := E1.out wb hB))
    all_goals
      go_wp2
      go_ret
      exact ⟨rfl, hB⟩
  · rw [if_neg h1] at p1 p2
    have q1 : ∀ w, (Op.stringOp .add ({ data := #[114] } : ByteArray) ({ data := #[32, 48, 120] } : ByteArray)).run Tryz.prog w = .ok (.string (strOfNums ([114] ++ [32, 48, 120]))) w := p1
    generalize ([114] ++ [32, 48, 120] : List Int) = X2 at q1 p2
    have q3 : ∀ w, (Op.stringOp .add (strOfNums X3) ({ data := #[32] } : ByteArray)).run Tryz.prog w = .ok (.string (strOfNums X4)) w := p3
    clear p1 p3
    obtain rfl : k = 0 := by omega
    clear h1
    go_enter Tryz.func51, Tryz.ntmps51
    go_wp2
    go_region_with (first
      | (go_at_call 46; refine (HX _).mono ?_; rintro r wa ⟨rfl, ma, rfl⟩)
      | (go_at_call 55; refine (DG _).mono ?_; rintro r wb ⟨rfl, bb⟩; have hB : Below w.heap.size w wb := Below.trans (by first | exact (Below.refl _ w).drew | exact below_drewN (Below.refl _ w) _ | exact below_drewN (Below.refl _ w).drew _) (bb.mono (by simp)); have q5 := E1.out wb hB))
    all_goals
      go_wp2
      go_ret
      exact ⟨rfl, hB⟩

end Go.Proofs.YtmdaianbhpppfaaGreatDoor
namespace Go.Proofs.YtmdaianbhpppfaaGreatDoor
open Go.RowKit

/-- An event's text, as an answer. -/
def etL (e : Ev) : List Int := if evF e = 0 then txE e else []
set_option maxRecDepth 100000 in
set_option maxHeartbeats 800000 in
theorem EventText_spec (e : Ev) (w : World) :
    Calls Tryz.prog 23 #[evV e.k e.a e.v] w fun r w' => r = .returned (txtV (evF e) (etL e)) ∧ Below w.heap.size w w' := by
  obtain ⟨k, a, v⟩ := e
  simp only
  have hC := fun w => specEvF_any k a v w
  unfold etL
  obtain ⟨o, ho⟩ : ∃ o, o = Obj.cells #[.int .i64 k, .int .i64 a, .int .i64 v] 39 := ⟨_, rfl⟩
  obtain ⟨o2, ho2⟩ : ∃ o, o = Obj.cells #[.int .i64 0, .string { data := #[] }] 27 := ⟨_, rfl⟩
  -- the answer's cells and the boxed event, behind whatever makes new memory alone
  have HM : ∀ w2 : World, Below ((w.alloc o).alloc o2).heap.size ((w.alloc o).alloc o2) w2 →
      w2.cell? ⟨w.heap.size + 1, 0, none⟩ = some (.int .i64 0) ∧ w2.cell? ⟨w.heap.size + 1, 1, none⟩ = some (.string { data := #[] }) ∧ w2.frozen? ⟨w.heap.size + 1, 0, none⟩ = false ∧ w2.frozen? ⟨w.heap.size + 1, 1, none⟩ = false ∧
      w2.cell? ⟨w.heap.size, 0, none⟩ = some (.int .i64 k) ∧ w2.cell? ⟨w.heap.size, 0 + 1, none⟩ = some (.int .i64 a) ∧ w2.cell? ⟨w.heap.size, 0 + 2, none⟩ = some (.int .i64 v) ∧ w.heap.size < w2.heap.size ∧ Below w.heap.size w w2 ∧ w.heap.size + 1 < w2.heap.size := by
    intro w2 hb
    have z : (w.alloc o).heap.size = w.heap.size + 1 := by simp
    have zz : ((w.alloc o).alloc o2).heap.size = w.heap.size + 2 := by simp
    have hs := hb.size
    have B1 : Below (w.alloc o).heap.size (w.alloc o) w2 := below_alloc hb
    have r0 := res_cell (w := w.alloc o) (ho2 ▸ hb) 0
    have r1 := res_cell (w := w.alloc o) (ho2 ▸ hb) 1
    have r2 := res_frozen (w := w.alloc o) (ho2 ▸ hb) 0
    have r3 := res_frozen (w := w.alloc o) (ho2 ▸ hb) 1
    rw [z] at r0 r1 r2 r3
    have s0 := res_cell (w := w) (ho ▸ B1) 0
    have s1 := res_cell (w := w) (ho ▸ B1) 1
    have s2 := res_cell (w := w) (ho ▸ B1) 2
    exact ⟨r0, r1, r2, r3, s0, s1, s2, by omega, below_alloc B1, by omega⟩
  rw [ho, ho2] at HM
  have HM := hide HM
  clear ho ho2
  by_cases h : evF ⟨k, a, v⟩ = 0
  · rw [if_pos h]
    have hE := fun b off w => l5Event_any ⟨k, a, v⟩ b off w h
    rw [h] at hC ⊢
    generalize txE ⟨k, a, v⟩ = E at hE ⊢
    clear h
    go_enter Tryz.func23, Tryz.ntmps23
    go_wp2_with fail
    refine (hC _).mono ?_
    rintro r w2 ⟨rfl, hb2⟩
    obtain ⟨r0, r1, r2, r3, s0, s1, s2, s3, s4, s5⟩ := HM.out w2 hb2
    go_wp2_with fail
    refine (hE w.heap.size 0 w2 s3 s0 s1 s2).mono ?_
    rintro r w3 ⟨rfl, hb3⟩
    have t0 := (hb3.cell (p := ⟨w.heap.size + 1, 0, none⟩) s5).trans r0
    have t1 := (hb3.cell (p := ⟨w.heap.size + 1, 1, none⟩) s5).trans r1
    have t2 := (hb3.frozen (p := ⟨w.heap.size + 1, 0, none⟩) s5).trans r2
    have t3 := (hb3.frozen (p := ⟨w.heap.size + 1, 1, none⟩) s5).trans r3
    go_wp2
    refine bodyPost_ret (v := txtV 0 E) (by simp [results, Tryz.results23, go_sem, t0, t1]) rfl ?_
    exact ⟨rfl, ((s4.trans (hb3.mono s4.size)).setCell (Nat.le_succ _) _).setCell (Nat.le_succ _) _⟩
  · rw [if_neg h]
    obtain ⟨F, hF⟩ : ∃ F, F = evF ⟨k, a, v⟩ := ⟨_, rfl⟩
    rw [← hF] at h hC ⊢
    have f0 : (F != 0) = true := bne_iff_ne.2 h
    clear h hF
    go_enter Tryz.func23, Tryz.ntmps23
    go_wp2_with fail
    refine (hC _).mono ?_
    rintro r w2 ⟨rfl, hb2⟩
    obtain ⟨r0, r1, r2, r3, s0, s1, s2, s3, s4, s5⟩ := HM.out w2 hb2
    go_wp2
    refine bodyPost_ret (v := txtV F []) (by simp [results, Tryz.results23, go_sem, r0, r1]; rfl) rfl ?_
    exact ⟨rfl, (s4.setCell (Nat.le_succ _) _).setCell (Nat.le_succ _) _⟩
end Go.Proofs.YtmdaianbhpppfaaGreatDoor
namespace Go.Proofs.YtmdaianbhpppfaaGreatDoor
open Go.RowKit

/-- The line ahead of a core; the first line. -/
def coL (i : Nat) : List Int := [99, 111, 114, 101, 32] ++ digL 10 i ++ [10]
def trL (n : Nat) : List Int := [116, 114, 97, 99, 101, 32] ++ digL 10 n ++ [10]
theorem prC_snoc : ∀ (l : List Ev) (e : Ev), prC (l ++ [e]) = prC l ++ (txE e ++ [10])
  | [], e => by simp [prC]
  | x :: l, e => by rw [List.cons_append, prC, prC_snoc l e, prC]; simp
theorem prS_snoc : ∀ (r : List (List Ev)) (i : Nat) (l : List Ev), prS i (r ++ [l]) = prS i r ++ (coL (i + r.length) ++ prC l)
  | [], i, l => by simp [prS, coL]
  | x :: r, i, l => by
    rw [List.cons_append, prS, prS_snoc r (i + 1) l, prS]
    simp only [List.length_cons, List.append_assoc]
    rw [show i + 1 + r.length = i + (r.length + 1) by omega]
theorem prL_eq (t : List (List Ev)) : prL t = trL t.length ++ prS 0 t := by unfold prL trL; simp
theorem prC_take {l : List Ev} {k : Nat} (h : k < l.length) : prC (l.take (k + 1)) = prC (l.take k) ++ (txE l[k] ++ [10]) := by
  rw [List.take_succ_eq_append_getElem h, prC_snoc]
theorem prS_take {t : List (List Ev)} {k : Nat} (h : k < t.length) : prS 0 (t.take (k + 1)) = prS 0 (t.take k) ++ (coL k ++ prC t[k]) := by
  rw [List.take_succ_eq_append_getElem h, prS_snoc]
  simp [show min k t.length = k by omega]
theorem prC_len : ∀ {l : List Ev}, (∀ e ∈ l, evF e = 0) → (prC l).length ≤ 17 * l.length
  | [], _ => by simp [prC]
  | e :: l, h => by
    have h1 := txE_length (h e (List.mem_cons_self ..))
    have h2 := prC_len (l := l) (fun x hx => h x (List.mem_cons_of_mem _ hx))
    unfold prC
    simp only [List.length_append, List.length_cons, List.length_nil]
    omega
theorem stF_8 {l : List Ev} (h : stF l = 0) : l.length ≤ 8 := (stF_zero h).1
theorem prC_few {l : List Ev} (h : stF l = 0) (k : Nat) : (prC (l.take k)).length ≤ 136 := by
  have h1 := prC_len (l := l.take k) (fun e he => evs_right h e (List.mem_of_mem_take he))
  have h2 := stF_8 h
  have h3 : (l.take k).length ≤ 8 := by rw [List.length_take]; omega
  omega
theorem dig_one {n : Nat} (h : n < 10) : (digL 10 n).length = 1 := by rw [digL_few h]; rfl
theorem coL_len {n : Nat} (h : n < 10) : (coL n).length = 7 := by unfold coL; simp [dig_one h]
theorem trL_len {n : Nat} (h : n < 10) : (trL n).length = 8 := by unfold trL; simp [dig_one h]
theorem prS_len : ∀ {r : List (List Ev)} {i : Nat}, (∀ l ∈ r, stF l = 0) → i + r.length ≤ 9 → (prS i r).length ≤ 143 * r.length
  | [], i, _, _ => by simp [prS]
  | l :: r, i, h, hi => by
    simp only [List.length_cons] at hi
    have h1 := prC_few (h l (List.mem_cons_self ..)) l.length
    rw [List.take_length] at h1
    have h2 := prS_len (r := r) (i := i + 1) (fun x hx => h x (List.mem_cons_of_mem _ hx)) (by omega)
    have h3 := dig_one (n := i) (by omega)
    unfold prS
    simp only [List.length_append, List.length_cons, List.length_nil, h3]
    omega
theorem prS_few {t : List (List Ev)} (h : trF t = 0) (k : Nat) : (prS 0 (t.take k)).length ≤ 572 := by
  obtain ⟨_, h4, hall⟩ := trT_zero h
  have h3 : (t.take k).length ≤ 4 := by rw [List.length_take]; omega
  have := prS_len (r := t.take k) (i := 0) (fun l hl => hall l (List.mem_of_mem_take hl)) (by omega)
  omega
theorem prL_len {t : List (List Ev)} (h : trF t = 0) : (prL t).length ≤ 580 := by
  obtain ⟨_, h4, hall⟩ := trT_zero h
  have h1 := prS_few h t.length
  rw [List.take_length] at h1
  rw [prL_eq, List.length_append, trL_len (by omega)]
  omega
theorem coL_B8 (n : Nat) : B8 (coL n) := by
  unfold coL
  refine B8.append (B8.append (fun x hx => ?_) (digL_B8 (by omega) (by omega) _)) (fun x hx => ?_)
  · simp only [List.mem_cons, List.not_mem_nil, or_false] at hx; omega
  · simp only [List.mem_cons, List.not_mem_nil, or_false] at hx; omega
theorem trL_B8 (n : Nat) : B8 (trL n) := by
  unfold trL
  refine B8.append (B8.append (fun x hx => ?_) (digL_B8 (by omega) (by omega) _)) (fun x hx => ?_)
  · simp only [List.mem_cons, List.not_mem_nil, or_false] at hx; omega
  · simp only [List.mem_cons, List.not_mem_nil, or_false] at hx; omega
theorem prC_B8 : ∀ (l : List Ev), B8 (prC l)
  | [] => fun x hx => by simp [prC] at hx
  | e :: l => by
    unfold prC
    exact (txE_B8 e).append (B8.append (fun x hx => by simp only [List.mem_cons, List.not_mem_nil, or_false] at hx; omega) (prC_B8 l))
theorem prS_B8 : ∀ (r : List (List Ev)) (i : Nat), B8 (prS i r)
  | [], i => fun x hx => by simp [prS] at hx
  | l :: r, i => by
    unfold prS
    refine B8.append (fun x hx => ?_) ((digL_B8 (by omega) (by omega) _).append (B8.append (fun x hx => ?_) ((prC_B8 l).append (prS_B8 r (i + 1)))))
    · simp only [List.mem_cons, List.not_mem_nil, or_false] at hx; omega
    · simp only [List.mem_cons, List.not_mem_nil, or_false] at hx; omega
theorem prL_B8 (t : List (List Ev)) : B8 (prL t) := by rw [prL_eq]; exact (trL_B8 _).append (prS_B8 _ _)

set_option maxRecDepth 100000 in
set_option maxHeartbeats 3200000 in
theorem l5Print_any (t : List (List Ev)) (A : Option Addr) (c : Nat) (w : World) (hF : trF t = 0) (h : RdT w w.heap.size A t) :
    Calls Tryz.prog 30 #[.slice A t.length c] w fun e w' => e = .returned (.string (strOfNums (prL t))) ∧ Below w.heap.size w w' := by
  obtain ⟨h1, h4, hall⟩ := trT_zero hF
  have DG := hide (fun (n : Nat) w (hn : n < 10) => l1Digits_any (n + 1) n w (by omega) (by omega))
  have hd1 := dig_one (n := t.length) (by omega)
  have p0 := fun w => run_sadd (P := Tryz.prog) (l := [116, 114, 97, 99, 101, 32]) (m := digL 10 t.length) (by simp only [List.length_cons, List.length_nil]; omega) w
  have p1 := fun w => run_sadd (P := Tryz.prog) (l := [116, 114, 97, 99, 101, 32] ++ digL 10 t.length) (m := [10]) (by simp only [List.length_append, List.length_cons, List.length_nil]; omega) w
  have q0 : ∀ w, (Op.stringOp .add ({ data := #[116, 114, 97, 99, 101, 32] } : ByteArray) (strOfNums (digL 10 t.length))).run Tryz.prog w = .ok (.string (strOfNums ([116, 114, 97, 99, 101, 32] ++ digL 10 t.length))) w := p0
  have q1 : ∀ w, (Op.stringOp .add (strOfNums ([116, 114, 97, 99, 101, 32] ++ digL 10 t.length)) ({ data := #[10] } : ByteArray)).run Tryz.prog w = .ok (.string (strOfNums (trL t.length))) w := p1
  have HE := hide (prL_eq t)
  have hlt := trL_len (n := t.length) (by omega)
  have dg0 := fun w => DG.out t.length w (by omega)
  generalize trL t.length = T at q1 HE hlt
  generalize [116, 114, 97, 99, 101, 32] ++ digL 10 t.length = X1 at q0 q1
  generalize digL 10 t.length = D at q0 dg0
  clear p0 p1 hd1
  go_enter Tryz.func30, Tryz.ntmps30
  go_wp2_with fail
  refine (dg0 _).mono ?_
  rintro e w1 ⟨rfl, b1⟩
  go_wp2
  clear q0 q1 dg0
  go_loopw [3, 4, 5, 13] (fun o _ _ i wr => ∃ k : Nat, k ≤ t.length ∧ i = .int .i64 k ∧ o = .string (strOfNums (T ++ prS 0 (t.take k))) ∧ Below w.heap.size w wr) (fun _ _ _ i _ => t.length - (intOf i).toNat)
  case atStart => exact ⟨0, Nat.zero_le _, rfl, by simp [prS], b1⟩
  case round =>
    obtain ⟨k, hk, rfl, rfl, hb⟩ := hrel
    by_cases hlt2 : k < t.length
    · obtain ⟨b, off, a, d, rfl, hbb, hc0, hle, hcm, hr⟩ := (h.below hb).get hlt2
      have hlS := prS_few hF k
      have HP := hide (prS_take hlt2)
      have hst := hall _ (List.getElem_mem hlt2)
      have hlC := fun m => prC_few hst m
      have h8 := stF_8 hst
      have hev := fun m (hm : m < t[k].length) => evs_right hst t[k][m] (List.getElem_mem hm)
      have hco := coL_len (n := k) (by omega)
      have hd1 := dig_one (n := k) (by omega)
      have p0 := fun w => run_sadd (P := Tryz.prog) (l := T ++ prS 0 (t.take k)) (m := [99, 111, 114, 101, 32]) (by simp only [List.length_append, List.length_cons, List.length_nil]; omega) w
      have p1 := fun w => run_sadd (P := Tryz.prog) (l := T ++ prS 0 (t.take k) ++ [99, 111, 114, 101, 32]) (m := digL 10 k) (by simp only [List.length_append, List.length_cons, List.length_nil]; omega) w
      have p2 := fun w => run_sadd (P := Tryz.prog) (l := T ++ prS 0 (t.take k) ++ [99, 111, 114, 101, 32] ++ digL 10 k) (m := [10]) (by simp only [List.length_append, List.length_cons, List.length_nil]; omega) w
      have e2 : T ++ prS 0 (t.take k) ++ [99, 111, 114, 101, 32] ++ digL 10 k ++ [10] = T ++ prS 0 (t.take k) ++ coL k := by unfold coL; simp
      rw [e2] at p2
      have hX : (T ++ prS 0 (t.take k) ++ coL k).length ≤ 600 := by simp only [List.length_append]; omega
      have HX := hide (show T ++ prS 0 (t.take k) ++ coL k ++ prC t[k] = T ++ prS 0 (t.take (k + 1)) by rw [HP.out]; simp)
      have dg0 := fun w => DG.out k w (by omega)
      generalize T ++ prS 0 (t.take k) ++ coL k = X at p2 hX HX
      generalize T ++ prS 0 (t.take k) ++ [99, 111, 114, 101, 32] ++ digL 10 k = X2 at p1 p2
      generalize T ++ prS 0 (t.take k) ++ [99, 111, 114, 101, 32] = X3 at p0 p1
      generalize T ++ prS 0 (t.take k) = X4 at p0 ⊢
      generalize digL 10 k = D at p1 dg0
      have q0 : ∀ w, (Op.stringOp .add (strOfNums X4) ({ data := #[99, 111, 114, 101, 32] } : ByteArray)).run Tryz.prog w = .ok (.string (strOfNums X3)) w := p0
      have q2 : ∀ w, (Op.stringOp .add (strOfNums X2) ({ data := #[10] } : ByteArray)).run Tryz.prog w = .ok (.string (strOfNums X)) w := p2
      clear p0 p2 e2 hco hd1 hlS hlt HP
      go_wp2_with fail
      refine (dg0 _).mono ?_
      rintro e w2 ⟨rfl, b2⟩
      have hb2 := hb.trans (b2.mono hb.size)
      have hc2 := (b2.cell (p := ⟨b, off + k, none⟩) (block_lt_of_cell hc0)).trans hc0
      go_wp2
      clear q0 q2 p1 dg0
      have hr2 := hr.below (b2.mono hb.size)
      clear hc0 hr b2 hb
      go_loopw [3, 5, 27] (fun o _ j wr => ∃ m : Nat, m ≤ t[k].length ∧ j = .int .i64 m ∧ o = .string (strOfNums (X ++ prC (t[k].take m))) ∧ Below w.heap.size w2 wr) (fun _ _ j _ => t[k].length - (intOf j).toNat)
      case atStart => exact ⟨0, Nat.zero_le _, rfl, by simp [prC], Below.refl _ _⟩
      case round =>
        obtain ⟨m, hm, rfl, rfl, hb3⟩ := hrel
        have hc3 := (hb3.cell (p := ⟨b, off + k, none⟩) hbb).trans hc2
        by_cases hlt3 : m < t[k].length
        · obtain ⟨b3, off3, rfl, hbb3, d0, d1, d2⟩ := (hr2.below hb3).get hlt3
          have hE := hev m hlt3
          have hll := txE_length hE
          have hlm := hlC m
          have HP := hide (prC_take hlt3)
          have EV := hide (l5Event_any t[k][m] b3 (off3 + m * 3) wr hE (block_lt_of_cell d0) d0 d1 d2)
          have p0 := fun w => run_sadd (P := Tryz.prog) (l := X ++ prC (t[k].take m)) (m := txE t[k][m]) (by simp only [List.length_append]; omega) w
          have p1 := fun w => run_sadd (P := Tryz.prog) (l := X ++ prC (t[k].take m) ++ txE t[k][m]) (m := [10]) (by simp only [List.length_append, List.length_cons, List.length_nil]; omega) w
          have HY := hide (show X ++ prC (t[k].take m) ++ txE t[k][m] ++ [10] = X ++ prC (t[k].take (m + 1)) by rw [HP.out]; simp)
          generalize X ++ prC (t[k].take m) ++ txE t[k][m] ++ [10] = Y at p1 HY
          generalize X ++ prC (t[k].take m) ++ txE t[k][m] = Y2 at p0 p1
          generalize X ++ prC (t[k].take m) = Y3 at p0 ⊢
          generalize txE t[k][m] = Y4 at p0 EV
          have q1 : ∀ w, (Op.stringOp .add (strOfNums Y2) ({ data := #[10] } : ByteArray)).run Tryz.prog w = .ok (.string (strOfNums Y)) w := p1
          clear p1 HP hE hll hlm d0 d1 d2
          go_wp2_with fail
          refine EV.out.mono ?_
          rintro e w4 ⟨rfl, b4⟩
          have hb4 := hb3.trans (b4.mono (by have := hb3.size; have := hb2.size; omega))
          go_wp2
          go_roundw
          case rel => exact ⟨m + 1, by omega, by go_num, by rw [← HY.out], hb4⟩
          case measure => simp [intOf]; omega
        · have HN := hide (show t[k].take m = t[k] from List.take_of_length_le (by omega))
          have hb4 := hb2.trans hb3
          go_wp2
          go_roundw
          case rel => exact ⟨k + 1, by omega, by go_num, by rw [← HX.out, HN.out], hb4⟩
          case measure => simp [intOf]; omega
    · have HN := hide (show T ++ prS 0 (t.take k) = prL t by rw [HE.out, List.take_of_length_le (by omega)])
      go_wp2
      go_ret
      exact ⟨congrArg (fun l => Ending.returned (Value.string (strOfNums l))) HN.out, hb⟩

/-- A trace's text, as an answer. -/
def ptL (t : List (List Ev)) : List Int := if trF t = 0 then prL t else []
theorem PrintTrace_spec (t : List (List Ev)) (A : Option Addr) (c : Nat) (w : World) (hm : t.length ≤ maxLen) (h : RdT w w.heap.size A t) :
    Calls Tryz.prog 15 #[.slice A t.length c] w fun e w' => e = .returned (txtV (trF t) (ptL t)) ∧ Below w.heap.size w w' := by
  have hC := hide (fun w h => specTrF_any t A c w hm h)
  unfold ptL
  obtain ⟨o, ho⟩ : ∃ o, o = Obj.cells #[.int .i64 0, .string { data := #[] }] 27 := ⟨_, rfl⟩
  have h0 : RdT (w.alloc o) (w.alloc o).heap.size A t := (h.alloc (Nat.le_refl _) o).lt
  by_cases hF : trF t = 0
  · rw [if_pos hF]
    have hP := hide (fun w h => l5Print_any t A c w hF h)
    rw [hF] at hC ⊢
    generalize prL t = L at hP ⊢
    go_enter Tryz.func15, Tryz.ntmps15
    go_wp2_with fail
    rw [← ho]
    refine (hC.out _ h0).mono ?_
    rintro e w1 ⟨rfl, b1⟩
    go_wp2_with fail
    refine (hP.out _ (h0.below b1).lt).mono ?_
    rintro e w2 ⟨rfl, b2⟩
    have hb := b1.trans (b2.mono b1.size)
    rw [ho] at hb
    have r0 := res_cell hb 0
    have r1 := res_cell hb 1
    have r2 := res_frozen hb 0
    have r3 := res_frozen hb 1
    have hbw := below_alloc hb
    clear hb b1 b2 ho
    go_wp2
    refine bodyPost_ret (v := txtV 0 L) (by simp [results, Tryz.results15, go_sem, r0, r1]) rfl ?_
    exact ⟨rfl, (hbw.setCell (Nat.le_refl _) _).setCell (Nat.le_refl _) _⟩
  · rw [if_neg hF]
    obtain ⟨F, hFF⟩ : ∃ F, F = trF t := ⟨_, rfl⟩
    rw [← hFF] at hF hC ⊢
    have f0 : (F != 0) = true := bne_iff_ne.2 hF
    clear hF hFF
    go_enter Tryz.func15, Tryz.ntmps15
    go_wp2_with fail
    rw [← ho]
    refine (hC.out _ h0).mono ?_
    rintro e w1 ⟨rfl, hb⟩
    rw [ho] at hb
    have r0 := res_cell hb 0
    have r1 := res_cell hb 1
    have r2 := res_frozen hb 0
    have r3 := res_frozen hb 1
    have hbw := below_alloc hb
    clear hb ho
    go_wp2
    refine bodyPost_ret (v := txtV F []) (by simp [results, Tryz.results15, go_sem, r0, r1]; rfl) rfl ?_
    exact ⟨rfl, (hbw.setCell (Nat.le_refl _) _).setCell (Nat.le_refl _) _⟩
end Go.Proofs.YtmdaianbhpppfaaGreatDoor
