/- What the laws' walks rest upon, part 3. -/
import Derived.Test.YtnnfkmjhaljplaaGreatDoorM01
import Derived.Test.YtnnfkmjhaljplaaGreatDoorM02
import Derived.Laws.BitsAllLaws
namespace Go.Proofs.YtnnfkmjhaljplaaGreatDoor
open Go.RowKit
theorem own_types {w : World} {b1 b2 s1 s2 n1 n2 : Nat} {e1 e2 : TypeId} {v1 v2 : Value} {xs1 xs2 : List Value} (h1 : w.ownsRow b1 e1 s1 v1 n1 xs1) (h2 : w.ownsRow b2 e2 s2 v2 n2 xs2) (he : e1 ≠ e2) : ∀ b, v1.ownBlock = some b → v2.ownBlock ≠ some b := fun b hb1 hb2 => by
  rcases h1.2 with ⟨rfl, _⟩ | ⟨g1, c1, cur1, rfl, _, k1, _⟩
  · cases hb1
  · rcases h2.2 with ⟨rfl, _⟩ | ⟨g2, c2, cur2, rfl, _, k2, _⟩
    · cases hb2
    · simp only [Value.ownBlock, Option.some.injEq] at hb1 hb2
      subst hb1
      subst hb2
      rw [k1] at k2
      simp only [Option.some.injEq, Obj.cells.injEq] at k2
      exact he k2.2.1
theorem own_box {w : World} {b1 s1 n1 g : Nat} {e1 e2 : TypeId} {v1 : Value} {xs1 : List Value} {cs : Array Value} (h1 : w.ownsRow b1 e1 s1 v1 n1 xs1) (h2 : Bk w g cs e2) (he : e1 ≠ e2) : v1.ownBlock ≠ some g := fun hb => by
  rcases h1.2 with ⟨rfl, _⟩ | ⟨g1, c1, cur1, rfl, _, k1, _⟩
  · cases hb
  · simp only [Value.ownBlock, Option.some.injEq] at hb
    subst hb
    rw [show w.heap[g1]? = some (.cells cs e2 (0, 0)) from h2] at k1
    simp only [Option.some.injEq, Obj.cells.injEq] at k1
    exact he k1.2.1.symm
end Go.Proofs.YtnnfkmjhaljplaaGreatDoor
namespace Go.Proofs.YtnnfkmjhaljplaaGreatDoor
open Go.RowKit
theorem info_stP : (Tryz.prog.info? 217).map (fun i => (i.zero, i.size, i.bytes)) = some (some (.agg #[.nilFunc]), 1, 8) := by kernel_rfl
/-- Functions of the program as values. -/
abbrev fnP (n : Nat) : Value := .func (.func n) #[] #[]
def fnsP (ns : List Nat) : List Value := ns.map fnP
theorem fnsP_length (ns : List Nat) : (fnsP ns).length = ns.length := by simp [fnsP]
theorem RdV.fn_newP (w : World) (p : Value) (T : TypeId) : RdV (w.alloc (.cells #[p] T)) (w.heap.size + 1) (some ⟨w.heap.size, 0, none⟩) [p] := fun _ =>
  ⟨w.heap.size, 0, rfl, Nat.lt_succ_self _, fun i hi => by
    rw [Nat.zero_add, (Bk.new w #[p] T).cell i]
    simp only [List.getElem?_toArray]
    exact List.getElem?_eq_getElem hi⟩
set_option maxRecDepth 100000 in
set_option maxHeartbeats 1600000 in
theorem stagesP_any (ns : List Nat) (b c : Nat) (T : TypeId) (w : World) (h4 : ns.length ≤ 4) (h : Bk w b (fnsP ns).toArray T) :
    Calls Tryz.prog 88 #[.slice (some ⟨b, 0, none⟩) ns.length c] w fun e w' => ∃ D d, e = .returned (.slice D ns.length d) ∧ w'.ownsRow w.heap.size 217 1 (.slice D ns.length d) ns.length (fnsP ns) ∧ Below w.heap.size w w' := by
  obtain ⟨i0, hi, hz0, hz1, hz2⟩ := info_parts info_stP
  go_enter Tryz.func88, Tryz.ntmps88
  go_wp2
  go_loopw [3, 8] (fun v i wr => ∃ k : Nat, k ≤ ns.length ∧ i = .int .i64 k ∧ wr.ownsRow w.heap.size 217 1 v k ((fnsP ns).take k) ∧ Below w.heap.size w wr) (fun _ i _ => ns.length - (intOf i).toNat)
  case atStart => exact ⟨0, Nat.zero_le _, rfl, World.ownsRow_nil _ _ _ _, Below.refl _ _⟩
  case round =>
    obtain ⟨k, hk, rfl, ho, hb⟩ := hrel
    by_cases hlt : k < ns.length
    · have q0 : wr.cell? ⟨b, k, none⟩ = some (fnP ns[k]) := by
        rw [(h.kept hb).cell k, List.getElem?_toArray]
        unfold fnsP
        rw [List.getElem?_map, List.getElem?_eq_getElem hlt]
        rfl
      obtain ⟨n, hf⟩ : ∃ n, n = ns[k] := ⟨_, rfl⟩
      have HT := hide (show (fnsP ns).take (k + 1) = (fnsP ns).take k ++ [fnP n] by rw [hf, List.take_succ_eq_append_getElem (by rw [fnsP_length]; exact hlt)]; simp [fnsP])
      rw [← hf] at q0
      clear hf
      obtain ⟨A, cA, hv⟩ := own_shape ho
      subst hv
      have zw := hb.size
      have ho2 := ho.alloc (Obj.cells #[fnP n] 217)
      have hb2 := hb.alloc hb.size (Obj.cells #[fnP n] 217)
      have hRv := RdV.fn_newP wr (fnP n) 217
      have hB2 := hb2.size
      clear ho hb
      go_wp2_with (at_builtin; go_loud (refine wpList_append_rv _ rfl (.tmp 12) (.tmp 15) 136 rfl w.heap.size 1 (by omega) 217 i0 (.agg #[.nilFunc]) 8 Tryz.underlying136 hi hz0 hz1 hz2 rfl (.slice A k cA) k ((fnsP ns).take k) rfl ho2 (some ⟨wr.heap.size, 0, none⟩) [fnP n] 1 1 (wr.heap.size + 1) rfl rfl (by intro u hu; simp only [List.mem_cons, List.not_mem_nil, or_false] at hu; subst hu; rfl) hRv (by unfold maxLen; omega) (by omega) hB2 ?_; intro v5 w5 o5 g5 hat5))
      have b5 := hb2.grown g5 hB2 (fun k' hk' => (ho2.lt k' hk').1)
      rw [← HT.out] at o5
      go_roundw
      case rel => exact ⟨k + 1, by omega, by go_num, o5, b5⟩
      case measure => simp [intOf]; omega
    · obtain rfl : k = ns.length := by omega
      rw [← fnsP_length ns, List.take_length, fnsP_length] at ho
      obtain ⟨A, cA, hv⟩ := own_shape ho
      subst hv
      go_wp2
      go_ret
      exact ⟨A, cA, rfl, ho, hb⟩
end Go.Proofs.YtnnfkmjhaljplaaGreatDoor
namespace Go.Proofs.YtnnfkmjhaljplaaGreatDoor
open Go.RowKit
/-- What stages do, one behind the other, upon the work in block q: from P on; Q holds of the code that is told and of the world then. -/
def ChnP (q : Nat) : List Nat → (World → Prop) → (Int → World → Prop) → Prop
  | [], P, Q => ∀ w, P w → Q 0 w
  | n :: r, P, Q => ∃ R : Int → World → Prop, (∀ a w, (callFunc n a).run Tryz.prog w = .ok (.enter n a) w) ∧ (∀ w o, P w → P (w.alloc o)) ∧ (∀ w, P w → Calls Tryz.prog n #[.pointer (some ⟨q, 0, none⟩)] w fun e w' => ∃ c, e = .returned (.int .i64 c) ∧ R c w' ∧ w.grownBy w' (some q)) ∧ (∀ c w, c ≠ 0 → R c w → Q c w) ∧ ChnP q r (R 0) Q
theorem st_fnP (w : World) (n : Nat) (T : TypeId) : (store ⟨w.heap.size, 0, none⟩ (.func (.func n) #[] #[])).run Tryz.prog (w.alloc (Obj.cells #[.nilFunc] T)) = .ok () (w.alloc (Obj.cells #[fnP n] T)) := by
  rw [run_store _ _ _ _ _ rfl, (Bk.new w #[.nilFunc] T).cell 0]
  simp only [List.getElem?_toArray, List.getElem?_cons_zero, (Bk.new w #[Value.nilFunc] T).frozen 0, World.setCell_alloc_new]
  rfl
set_option maxRecDepth 100000 in
set_option maxHeartbeats 1600000 in
theorem firstP_any (ns : List Nat) (q base c : Nat) (D : Option Addr) (P : World → Prop) (Q : Int → World → Prop) (w : World) (h4 : ns.length ≤ 4) (hD : ∀ b, (Value.slice D ns.length c).ownBlock = some b → b ≠ q) (hr : w.ownsRow base 217 1 (.slice D ns.length c) ns.length (fnsP ns)) (hC : ChnP q ns P Q) (hP : P w) :
    Calls Tryz.prog 91 #[.slice D ns.length c, .pointer (some ⟨q, 0, none⟩)] w fun e w' => ∃ c, e = .returned (.int .i64 c) ∧ Q c w' ∧ w.grownBy w' (some q) := by
  have HD := hide hD
  clear hD
  go_enter Tryz.func91, Tryz.ntmps91
  go_wp2
  go_loopw [10] (fun i wr => ∃ (k : Nat) (Pk : World → Prop), k ≤ ns.length ∧ i = .int .i64 k ∧ Pk wr ∧ Hid (ChnP q (ns.drop k) Pk Q) ∧ wr.ownsRow base 217 1 (.slice D ns.length c) ns.length (fnsP ns) ∧ w.grownBy wr (some q)) (fun i _ => ns.length - (intOf i).toNat)
  case atStart => exact ⟨0, P, Nat.zero_le _, rfl, hP, hide (by rw [List.drop_zero]; exact hC), hr, World.grownBy.refl _ _⟩
  case round =>
    obtain ⟨k, Pk, hk, rfl, hPk, HC, ho, hg⟩ := hrel
    by_cases hlt : k < ns.length
    · have hC2 := HC.out
      rw [List.drop_eq_getElem_cons hlt] at hC2
      obtain ⟨R, hcf, ha, hcall, hq, hrest⟩ := hC2
      obtain ⟨gd, rfl⟩ : ∃ gd, D = some ⟨gd, 0, none⟩ := by
        rcases ho.2 with ⟨h', h''⟩ | ⟨g, cap, cur, h', _⟩
        · omega
        · simp only [Value.slice.injEq] at h'
          exact ⟨g, h'.1⟩
      have q0 : wr.cell? ⟨gd, k, none⟩ = some (fnP ns[k]) := by
        rw [ho.cellAt k (by omega)]
        unfold fnsP
        rw [List.getElem?_map, List.getElem?_eq_getElem hlt]
        rfl
      have HH := hide (And.intro hq hrest)
      have HN := hide (hcall _ (ha wr (Obj.cells #[fnP ns[k]] 217) hPk))
      obtain ⟨n, hn⟩ : ∃ n, n = ns[k] := ⟨_, rfl⟩
      rw [← hn] at HN q0 hcf
      replace q0 : wr.cell? ⟨gd, k, none⟩ = some (.func (.func n) #[] #[]) := q0
      have hga := World.grownBy_alloc wr (Obj.cells #[fnP n] 217) (some q)
      have ho2 := ho.alloc (Obj.cells #[fnP n] 217)
      have hst := st_fnP wr n 217
      clear ha hcall hq hrest hC HC hPk hn ho
      go_wp2_with fail
      refine HN.out.mono ?_
      rintro e w2 ⟨cd, rfl, hR, g2⟩
      clear hcf
      have ho3 := ho2.kept g2 (own_sep fun b hb e => by cases e; exact HD.out _ hb rfl)
      have hg3 := (hg.trans hga).trans g2
      clear HN ho2 g2 hg hga q0
      by_cases hc0 : cd = 0
      · subst hc0
        go_wp2
        go_roundw
        case rel => exact ⟨k + 1, R 0, by omega, by go_num, hR, hide HH.out.2, ho3, hg3⟩
        case measure => simp [intOf]; omega
      · have u0 : (cd != 0) = true := bne_iff_ne.2 hc0
        have HQ := hide (HH.out.1 cd w2 hc0 hR)
        clear hc0 hR HH
        go_wp2
        go_ret
        exact ⟨cd, rfl, HQ.out, hg3⟩
    · obtain rfl : k = ns.length := by omega
      have hC2 := HC.out
      rw [List.drop_length] at hC2
      have HQ := hide (hC2 _ hPk)
      clear HC hC2 hC
      go_wp2
      go_ret
      exact ⟨0, rfl, HQ.out, hg⟩
end Go.Proofs.YtnnfkmjhaljplaaGreatDoor
namespace Go.Proofs.YtnnfkmjhaljplaaGreatDoor
open Go.RowKit
/-- A frame as a value. -/
abbrev frV (k : Int) (A : Option Addr) (n c : Nat) : Value := .agg #[.int .i64 k, .slice A n c]
/-- Three cells' blocks, laid one behind the other: what of them is known. -/
theorem three_new (w : World) (c0 c1 c2 : Array Value) (t0 t1 t2 : TypeId) (W : World) (hW : W = ((w.alloc (Obj.cells c0 t0)).alloc (Obj.cells c1 t1)).alloc (Obj.cells c2 t2)) :
    Bk W w.heap.size c0 t0 ∧ Bk W (w.heap.size + 1) c1 t1 ∧ Bk W (w.heap.size + 1 + 1) c2 t2 ∧ W.heap.size = w.heap.size + 1 + 1 + 1 ∧ Below w.heap.size w W := by
  have e1 : (w.alloc (Obj.cells c0 t0)).heap.size = w.heap.size + 1 := by simp
  have e2 : ((w.alloc (Obj.cells c0 t0)).alloc (Obj.cells c1 t1)).heap.size = w.heap.size + 1 + 1 := by simp
  have k0 := ((Bk.new w c0 t0).alloc (Obj.cells c1 t1)).alloc (Obj.cells c2 t2)
  have k1 := (Bk.new (w.alloc (Obj.cells c0 t0)) c1 t1).alloc (Obj.cells c2 t2)
  have k2 := Bk.new ((w.alloc (Obj.cells c0 t0)).alloc (Obj.cells c1 t1)) c2 t2
  rw [e1] at k1
  rw [e2] at k2
  subst hW
  exact ⟨k0, k1, k2, by simp, (((Below.refl w.heap.size w).alloc (Nat.le_refl _) _).alloc (by omega) _).alloc (by omega) _⟩
theorem two_new (w : World) (c0 c1 : Array Value) (t0 t1 : TypeId) (W : World) (hW : W = (w.alloc (Obj.cells c0 t0)).alloc (Obj.cells c1 t1)) :
    Bk W w.heap.size c0 t0 ∧ Bk W (w.heap.size + 1) c1 t1 ∧ W.heap.size = w.heap.size + 1 + 1 ∧ Below w.heap.size w W := by
  have e1 : (w.alloc (Obj.cells c0 t0)).heap.size = w.heap.size + 1 := by simp
  have k0 := (Bk.new w c0 t0).alloc (Obj.cells c1 t1)
  have k1 := Bk.new (w.alloc (Obj.cells c0 t0)) c1 t1
  rw [e1] at k1
  subst hW
  exact ⟨k0, k1, by simp, ((Below.refl w.heap.size w).alloc (Nat.le_refl _) _).alloc (by omega) _⟩
end Go.Proofs.YtnnfkmjhaljplaaGreatDoor
namespace Go.Proofs.YtnnfkmjhaljplaaGreatDoor
open Go.RowKit
end Go.Proofs.YtnnfkmjhaljplaaGreatDoor
namespace Go.Proofs.YtnnfkmjhaljplaaGreatDoor
open Go.RowKit
/-- An answer with a frame as a value. -/
abbrev frR (a k : Int) (A : Option Addr) (n c : Nat) (z : Int) : Value := .agg #[.int .i64 a, .int .i64 k, .slice A n c, .int .i64 z]
end Go.Proofs.YtnnfkmjhaljplaaGreatDoor
namespace Go.Proofs.YtnnfkmjhaljplaaGreatDoor
/-- One bit of the sum. -/
def bst (x : Nat) : Nat := x / 2 ^^^ (if x % 2 = 1 then 3988292384 else 0)
/-- The steps of half a byte. -/
def tab (i : Nat) : Nat := bst (bst (bst (bst i)))
def tabL : List Int := [0, 498536548, 997073096, 651767980, 1994146192, 1802195444, 1303535960, 1342533948, 3988292384, 4027552580, 3604390888, 3412177804, 2607071920, 2262029012, 2685067896, 3183342108]
def nib (x : Nat) : Nat := x / 16 ^^^ tab (x % 16)
def bst8 (x : Nat) : Nat := bst (bst (bst (bst (bst (bst (bst (bst x)))))))
theorem tab_eq : ∀ i, i < 16 → tabL.getD i 0 = (tab i : Int) := by decide
theorem xor_half (a b : Nat) : (a ^^^ b) / 2 = a / 2 ^^^ b / 2 := by
  apply Nat.eq_of_testBit_eq
  intro i
  simp only [Nat.testBit_div_two, Nat.testBit_xor]
theorem xor_odd (a b : Nat) : (a ^^^ b) % 2 = 1 ↔ ¬ (a % 2 = 1 ↔ b % 2 = 1) := by
  have h := Nat.testBit_xor a b 0
  simp only [Nat.testBit_zero] at h
  by_cases ha : a % 2 = 1 <;> by_cases hb : b % 2 = 1 <;> simp [ha, hb] at h ⊢ <;> omega
theorem bst_xor (a b : Nat) : bst (a ^^^ b) = bst a ^^^ bst b := by
  unfold bst
  rw [xor_half]
  have h := xor_odd a b
  by_cases ha : a % 2 = 1 <;> by_cases hb : b % 2 = 1
  · rw [if_neg (by rw [h]; simp [ha, hb]), if_pos ha, if_pos hb]
    apply Nat.eq_of_testBit_eq
    intro i
    simp only [Nat.testBit_xor, Nat.zero_testBit]
    cases (a / 2).testBit i <;> cases (b / 2).testBit i <;> cases (3988292384 : Nat).testBit i <;> rfl
  · rw [if_pos (by rw [h]; simp [ha, hb]), if_pos ha, if_neg hb]
    apply Nat.eq_of_testBit_eq
    intro i
    simp only [Nat.testBit_xor, Nat.zero_testBit]
    cases (a / 2).testBit i <;> cases (b / 2).testBit i <;> cases (3988292384 : Nat).testBit i <;> rfl
  · rw [if_pos (by rw [h]; simp [ha, hb]), if_neg ha, if_pos hb]
    apply Nat.eq_of_testBit_eq
    intro i
    simp only [Nat.testBit_xor, Nat.zero_testBit]
    cases (a / 2).testBit i <;> cases (b / 2).testBit i <;> cases (3988292384 : Nat).testBit i <;> rfl
  · rw [if_neg (by rw [h]; simp [ha, hb]), if_neg ha, if_neg hb]
    simp
theorem bst_even (q : Nat) : bst (2 * q) = q := by
  unfold bst
  rw [if_neg (by omega), show 2 * q / 2 = q by omega]
  simp
theorem split16 (x : Nat) : x = (2 * (2 * (2 * (2 * (x / 16))))) ^^^ (x % 16) := by
  rw [show 2 * (2 * (2 * (2 * (x / 16)))) = x / 2 ^ 4 * 2 ^ 4 by omega, show x % 16 = x % 2 ^ 4 by rfl]
  apply Nat.eq_of_testBit_eq
  intro i
  rw [Nat.testBit_xor, Nat.testBit_mul_two_pow, Nat.testBit_mod_two_pow, Nat.testBit_div_two_pow]
  by_cases h : i < 4
  · simp [h, show ¬ 4 ≤ i by omega]
  · simp [h, show 4 ≤ i by omega, show i - 4 + 4 = i by omega]
theorem bst4 (x : Nat) : bst (bst (bst (bst x))) = nib x := by
  conv => lhs; rw [split16 x]
  rw [bst_xor, bst_even, bst_xor, bst_even, bst_xor, bst_even, bst_xor, bst_even]
  rfl
theorem bst8_nib (x : Nat) : bst8 x = nib (nib x) := by
  unfold bst8
  rw [bst4, bst4]
theorem bst_lt {x : Nat} (h : x < 4294967296) : bst x < 4294967296 := by
  unfold bst
  have h1 : x / 2 < 2 ^ 32 := by omega
  have h2 : (if x % 2 = 1 then 3988292384 else 0) < 2 ^ 32 := by split <;> decide
  exact Nat.xor_lt_two_pow h1 h2
theorem bst8_lt {x : Nat} (h : x < 4294967296) : bst8 x < 4294967296 := bst_lt (bst_lt (bst_lt (bst_lt (bst_lt (bst_lt (bst_lt (bst_lt h)))))))
theorem nib_lt {x : Nat} (h : x < 4294967296) : nib x < 4294967296 := by rw [← bst4]; exact bst_lt (bst_lt (bst_lt (bst_lt h)))
theorem tab_lt {i : Nat} (h : i < 16) : tab i < 4294967296 := bst_lt (bst_lt (bst_lt (bst_lt (by omega))))
/-- The state behind the bytes l. -/
def crcS : Nat → List Int → Nat
  | s, [] => s
  | s, b :: r => crcS (bst8 (s ^^^ b.toNat)) r
theorem crcS_append : ∀ (l m : List Int) (s : Nat), crcS s (l ++ m) = crcS (crcS s l) m
  | [], _, _ => rfl
  | b :: r, m, s => by simp only [List.cons_append, crcS]; exact crcS_append r m _
theorem byte_xor_lt {s : Nat} {b : Int} (hs : s < 4294967296) (h1 : b < 256) : s ^^^ b.toNat < 4294967296 :=
  Nat.xor_lt_two_pow (n := 32) hs (by omega)
theorem crcS_lt : ∀ (l : List Int) (s : Nat), B8 l → s < 4294967296 → crcS s l < 4294967296
  | [], _, _, h => h
  | b :: r, s, h8, h => crcS_lt r _ (fun x hx => h8 x (List.mem_cons_of_mem _ hx)) (bst8_lt (byte_xor_lt h (h8 b (by simp)).2))
/-- The code and the sum of a row of bytes. -/
def crcC (l : List Int) : Int := if l.length ≤ 4000 then 0 else 2
def crcV (l : List Int) : Int := if l.length ≤ 4000 then ((crcS 4294967295 l ^^^ 4294967295 : Nat) : Int) else 0
theorem crc_in {l : List Int} (h : l.length ≤ 4000) : crcC l = 0 ∧ crcV l = ((crcS 4294967295 l ^^^ 4294967295 : Nat) : Int) := ⟨if_pos h, if_pos h⟩
theorem crc_out {l : List Int} (h : ¬ l.length ≤ 4000) : crcC l = 2 ∧ crcV l = 0 := ⟨if_neg h, if_neg h⟩
theorem crcS_take (l : List Int) (s j : Nat) (hj : j < l.length) : crcS s (l.take (j + 1)) = bst8 (crcS s (l.take j) ^^^ l[j].toNat) := by
  rw [List.take_succ_eq_append_getElem hj, crcS_append]
  rfl
/-- k bits of the sum. -/
def bstI : Nat → Nat → Nat
  | 0, x => x
  | k + 1, x => bst (bstI k x)
theorem bstI_lt {x : Nat} (h : x < 4294967296) : ∀ k, bstI k x < 4294967296
  | 0 => h
  | k + 1 => bst_lt (bstI_lt h k)
theorem wraps_i64_62 (n : Int) (h₀ : 0 ≤ n) (h₁ : n < 2 ^ 62) : IntKind.i64.wrap n = n := by rw [IntKind.wrap_i64]; omega
theorem i64_xor_nat (a b : Nat) (ha : a < 4294967296) (hb : b < 4294967296) : bits .xor .i64 (a : Int) (b : Int) = ((a ^^^ b : Nat) : Int) := by
  have hx : a ^^^ b < 2 ^ 32 := Nat.xor_lt_two_pow (by omega) (by omega)
  have ha' : a % 2 ^ IntKind.i64.bits = a := Nat.mod_eq_of_lt (by simp [IntKind.bits]; omega)
  have hb' : b % 2 ^ IntKind.i64.bits = b := Nat.mod_eq_of_lt (by simp [IntKind.bits]; omega)
  simp only [bits, BitVec.ofInt_natCast, BitVec.toNat_xor, BitVec.toNat_ofNat, ha', hb']
  exact wraps_i64_62 _ (by omega) (by omega)
theorem i64_bst (y : Nat) (h : y < 4294967296) (ho : y % 2 = 1) : bits .xor .i64 ((y : Int) / 2) 3988292384 = (bst y : Int) := by
  have := i64_xor_nat (y / 2) 3988292384 (by omega) (by omega)
  rw [show ((y : Int) / 2) = ((y / 2 : Nat) : Int) by omega]
  unfold bst
  rw [if_pos ho]
  exact this
theorem bst_of_even (y : Nat) (ho : ¬ y % 2 = 1) : ((y : Int) / 2) = (bst y : Int) := by
  unfold bst
  rw [if_neg ho]
  simp
theorem u32_nib (y : Nat) (h : y < 4294967296) : bits .xor .u32 ((y : Int) / 16) (tab (y % 16) : Int) = (nib y : Int) := by
  rw [show ((y : Int) / 16) = ((y / 16 : Nat) : Int) by omega]
  exact u32_xor_nat _ _ (by omega) (tab_lt (by omega))
end Go.Proofs.YtnnfkmjhaljplaaGreatDoor
