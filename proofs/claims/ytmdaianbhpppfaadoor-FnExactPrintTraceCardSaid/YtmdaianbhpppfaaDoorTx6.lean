/- Texts of numbers and events: HexOf, l5Event, EventText of the document. -/
import Derived.Test.YtmdaianbhpppfaaDoorTx5
import Derived.Test.YtmdaianbhpppfaaDoorEv
namespace Go.Proofs.YtmdaianbhpppfaaDoor
open Go.RowKit

theorem below_drewN {B : Nat} {a w : World} (h : Below B a w) (n : Nat) : Below B a (w.drewN n) := ⟨h.os, h.tape, h.output, h.size, h.block⟩
/-- An answer with a text. -/
abbrev txtV (c : Int) (l : List Int) : Value := .agg #[.int .i64 c, .string (strOfNums l)]
def hxC (n : Int) : Int := if 0 ≤ n ∧ n ≤ 999999 then 0 else 3
def hxL (n : Int) : List Int := if 0 ≤ n ∧ n ≤ 999999 then [48, 120] ++ digL 16 n.toNat else []
theorem HexOf_spec (n : Int) (w : World) :
    Calls Tryd.prog 7 #[.int .i64 n] w fun e w' => e = .returned (txtV (hxC n) (hxL n)) ∧ Below w.heap.size w w' := by
  by_cases h : 0 ≤ n ∧ n ≤ 999999
  · obtain ⟨N, rfl⟩ : ∃ N : Nat, n = N := ⟨n.toNat, by omega⟩
    have hC := fun w => l5Hex_any (N + 1) N w (by omega) (by omega)
    have hl := digL_len (b := 16) (by omega) 4 N (by omega)
    have p0 := fun w => run_sadd (P := Tryd.prog) (l := [48, 120]) (m := digL 16 N) (by simp only [List.length_cons, List.length_nil]; omega) w
    have e1 : hxC (N : Int) = 0 := by unfold hxC; rw [if_pos h]
    have e2 : hxL (N : Int) = [48, 120] ++ digL 16 N := by unfold hxL; rw [if_pos h, Int.toNat_natCast]
    rw [e1, e2]
    generalize [48, 120] ++ digL 16 N = E at p0 ⊢
    generalize digL 16 N = D at p0 hC
    have p1 : ∀ w, (Op.stringOp .add ({ data := #[48, 120] } : ByteArray) (strOfNums D)).run Tryd.prog w = .ok (.string (strOfNums E)) w := p0
    clear p0 hl e1 e2
    go_enter Tryd.func7, Tryd.ntmps7
    go_wp2_with fail
    refine (l1In_yes _ _ _ _ h).mono ?_
    rintro e w2 ⟨rfl, rfl⟩
    go_wp2_with fail
    refine (hC _).mono ?_
    rintro e w2 ⟨rfl, m, rfl⟩
    go_wp2
    go_returns
    exact ⟨rfl, ((below_drewN ((Below.refl _ w).alloc (Nat.le_refl _) _) m).setCell (Nat.le_refl _) _).setCell (Nat.le_refl _) _⟩
  · have e1 : hxC n = 3 := by unfold hxC; rw [if_neg h]
    have e2 : hxL n = [] := by unfold hxL; rw [if_neg h]
    rw [e1, e2]
    have h' : n < 0 ∨ 999999 < n := by omega
    clear h
    go_enter Tryd.func7, Tryd.ntmps7
    go_wp2_with fail
    refine (l1In_no _ _ _ _ h').mono ?_
    rintro e w2 ⟨rfl, rfl⟩
    go_wp2
    go_returns
    exact ⟨rfl, by go_grown⟩

theorem txE_parts (e : Ev) : txE e = [if e.k = 1 then 119 else 114] ++ [32, 48, 120] ++ digL 16 e.a.toNat ++ [32] ++ digL 10 e.v.toNat := by unfold txE; simp
theorem txE_length {e : Ev} (h : evF e = 0) : (txE e).length ≤ 16 := by
  have hv := evF_zero h
  have h1 := digL_len (b := 16) (by omega) 4 e.a.toNat (by omega)
  have h2 := digL_len (b := 10) (by omega) 5 e.v.toNat (by omega)
  unfold txE
  simp only [List.length_append, List.length_cons, List.length_nil]
  omega
theorem txE_B8 (e : Ev) : B8 (txE e) := by
  unfold txE
  refine B8.append (fun x hx => ?_) ((digL_B8 (by omega) (by omega) _).append (B8.append (fun x hx => ?_) (digL_B8 (by omega) (by omega) _)))
  · simp only [List.mem_cons, List.not_mem_nil, or_false] at hx
    rcases hx with h | h | h | h
    · rw [h]; split <;> omega
    all_goals omega
  · simp at hx; omega

set_option maxRecDepth 100000 in
set_option maxHeartbeats 3200000 in
/-- An event's text, of an event that lies in memory. -/
theorem l5Event_any (e : Ev) (b off : Nat) (w : World) (hF : evF e = 0) (hb : b < w.heap.size)
    (c0 : w.cell? ⟨b, off, none⟩ = some (.int .i64 e.k)) (c1 : w.cell? ⟨b, off + 1, none⟩ = some (.int .i64 e.a)) (c2 : w.cell? ⟨b, off + 2, none⟩ = some (.int .i64 e.v)) :
    Calls Tryd.prog 28 #[.pointer (some ⟨b, off, none⟩)] w fun r w' => r = .returned (.string (strOfNums (txE e))) ∧ Below w.heap.size w w' := by
  have hv := evF_zero hF
  have HL := txE_length hF
  obtain ⟨k, a, v⟩ := e
  simp only at c0 c1 c2 hv
  obtain ⟨a, rfl⟩ : ∃ N : Nat, a = N := ⟨a.toNat, by omega⟩
  obtain ⟨v, rfl⟩ : ∃ N : Nat, v = N := ⟨v.toNat, by omega⟩
  have HX := fun w => l5Hex_any (a + 1) a w (by omega) (by omega)
  have DG := fun w => l1Digits_any (v + 1) v w (by omega) (by omega)
  have hE := txE_parts ⟨k, a, v⟩
  simp only [Int.toNat_natCast] at hE
  rw [hE] at HL
  simp only [List.length_append, List.length_cons, List.length_nil] at HL
  have p1 := fun w => run_sadd (P := Tryd.prog) (l := [if k = 1 then 119 else 114]) (m := [32, 48, 120]) (by simp only [List.length_cons, List.length_nil]; omega) w
  have p2 := fun w => run_sadd (P := Tryd.prog) (l := [if k = 1 then 119 else 114] ++ [32, 48, 120]) (m := digL 16 a) (by simp only [List.length_append, List.length_cons, List.length_nil]; omega) w
  have p3 := fun w => run_sadd (P := Tryd.prog) (l := [if k = 1 then 119 else 114] ++ [32, 48, 120] ++ digL 16 a) (m := [32]) (by simp only [List.length_append, List.length_cons, List.length_nil]; omega) w
  have p4 := fun w => run_sadd (P := Tryd.prog) (l := [if k = 1 then 119 else 114] ++ [32, 48, 120] ++ digL 16 a ++ [32]) (m := digL 10 v) (by simp only [List.length_append, List.length_cons, List.length_nil]; omega) w
  rw [← hE] at p4
  generalize txE ⟨k, a, v⟩ = E at p4 hE ⊢
  generalize [if k = 1 then 119 else 114] ++ [32, 48, 120] ++ digL 16 a ++ [32] = X4 at p3 p4
  generalize [if k = 1 then 119 else 114] ++ [32, 48, 120] ++ digL 16 a = X3 at p2 p3
  generalize digL 16 a = D1 at p2 HX
  generalize digL 10 v = D2 at p4 DG
  clear HL hE hF
  have E1 := hide (fun W (hB : Below w.heap.size w W) => (hB.cell (p := ⟨b, off + 1, none⟩) hb).trans c1)
  have E2 := hide (fun W (hB : Below w.heap.size w W) => (hB.cell (p := ⟨b, off + 2, none⟩) hb).trans c2)
  obtain ⟨hk, _⟩ := hv
  by_cases h1 : k = 1
  · rw [if_pos h1] at p1 p2
    have q1 : ∀ w, (Op.stringOp .add ({ data := #[119] } : ByteArray) ({ data := #[32, 48, 120] } : ByteArray)).run Tryd.prog w = .ok (.string (strOfNums ([119] ++ [32, 48, 120]))) w := p1
    generalize ([119] ++ [32, 48, 120] : List Int) = X2 at q1 p2
    have q3 : ∀ w, (Op.stringOp .add (strOfNums X3) ({ data := #[32] } : ByteArray)).run Tryd.prog w = .ok (.string (strOfNums X4)) w := p3
    clear p1 p3 hk
    subst h1
    go_enter Tryd.func28, Tryd.ntmps28
    go_wp2
    go_region_with (first
      | (go_at_call 24; refine (HX _).mono ?_; rintro r wa ⟨rfl, ma, rfl⟩)
      | (go_at_call 44; refine (DG _).mono ?_; rintro r wb ⟨rfl, bb⟩; have hB : Below w.heap.size w wb := Below.trans (by first | exact (Below.refl _ w).drew | exact below_drewN (Below.refl _ w) _ | exact below_drewN (Below.refl _ w).drew _) (bb.mono (by simp)); have q5 := E1.out wb hB))
    all_goals
      go_wp2
      go_ret
      exact ⟨rfl, hB⟩
  · rw [if_neg h1] at p1 p2
    have q1 : ∀ w, (Op.stringOp .add ({ data := #[114] } : ByteArray) ({ data := #[32, 48, 120] } : ByteArray)).run Tryd.prog w = .ok (.string (strOfNums ([114] ++ [32, 48, 120]))) w := p1
    generalize ([114] ++ [32, 48, 120] : List Int) = X2 at q1 p2
    have q3 : ∀ w, (Op.stringOp .add (strOfNums X3) ({ data := #[32] } : ByteArray)).run Tryd.prog w = .ok (.string (strOfNums X4)) w := p3
    clear p1 p3
    obtain rfl : k = 0 := by omega
    clear h1
    go_enter Tryd.func28, Tryd.ntmps28
    go_wp2
    go_region_with (first
      | (go_at_call 24; refine (HX _).mono ?_; rintro r wa ⟨rfl, ma, rfl⟩)
      | (go_at_call 44; refine (DG _).mono ?_; rintro r wb ⟨rfl, bb⟩; have hB : Below w.heap.size w wb := Below.trans (by first | exact (Below.refl _ w).drew | exact below_drewN (Below.refl _ w) _ | exact below_drewN (Below.refl _ w).drew _) (bb.mono (by simp)); have q5 := E1.out wb hB))
    all_goals
      go_wp2
      go_ret
      exact ⟨rfl, hB⟩

end Go.Proofs.YtmdaianbhpppfaaDoor
