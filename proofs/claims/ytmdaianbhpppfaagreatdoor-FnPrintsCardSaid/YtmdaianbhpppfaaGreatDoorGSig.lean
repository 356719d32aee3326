/- Where a rune stands among the signs of the digits: strings.IndexRune at that one string. The library's own text is walked. Where a rune stands among the signs of the digits: strings.IndexRune at that one string. The library's own text is walked. Where a rune stands among the signs of the digits: every rune. The library's own text is walked. Reading a number: the program's numberIn. Reading a number: the program's numberIn. -/
import Derived.Test.YtmdaianbhpppfaaGreatDoorGTxA
import Derived.Lib.Bytealg
import Derived.Lib.Walk
import Derived.Lib.OthersKept
import Derived.Laws.RangeAny
import Derived.Deep.QuietTactic
import Derived.BigQuiet
import Derived.Scope
import Derived.Test.YtmdaianbhpppfaaGreatDoorGEv
namespace Go.Proofs.YtmdaianbhpppfaaGreatDoor
open Go.RowKit

/-- The signs of the digits. -/
abbrev sgS : ByteArray := { data := #[48, 49, 50, 51, 52, 53, 54, 55, 56, 57, 97, 98, 99, 100, 101, 102] }
set_option maxRecDepth 100000 in
set_option maxHeartbeats 1000000 in
theorem slIndexByte_any (s : ByteArray) (c : Int) (w : World) :
    Calls Tryz.prog 95 #[.string s, .int .u8 c] w fun e w' => e = .returned (.int .i64 (Lib.indexByte s.data.toList c.toNat.toUInt8)) ∧ w = w' := by
  go_enter Tryz.func95, Tryz.ntmps95
  go_wp2
  rw [run_callFunc_extern Tryz.func102 (by kernel_rfl) (by kernel_rfl) (by kernel_rfl) (e := Extern.BytealgIndexByte.indexByte) (by kernel_rfl), Lib.run_indexByteString]
  simp only [Result.andThen]
  rw [Oper.upon_value]
  go_wp2
  go_ret
  exact ⟨rfl, rfl⟩
set_option maxRecDepth 100000 in
theorem strIndexByte_any (s : ByteArray) (c : Int) (w : World) :
    Calls Tryz.prog 81 #[.string s, .int .u8 c] w fun e w' => e = .returned (.int .i64 (Lib.indexByte s.data.toList c.toNat.toUInt8)) ∧ w = w' := by
  go_enter Tryz.func81, Tryz.ntmps81
  go_wp2_with (go_at_call 95; refine (slIndexByte_any _ _ _).mono ?_; rintro e w' ⟨rfl, rfl⟩)
  go_ret
  exact ⟨rfl, rfl⟩
set_option maxRecDepth 100000 in
theorem validRune_any (r : Int) (w : World) :
    Calls Tryz.prog 82 #[.int .i32 r] w fun e w' => e = .returned (.bool (Utf8.valid r)) ∧ w = w' := by
  unfold Utf8.valid
  by_cases h0 : 0 ≤ r ∧ r < 55296
  · obtain ⟨a, b⟩ := h0
    go_enter Tryz.func82, Tryz.ntmps82
    go_wp2
    go_ret
    exact ⟨by simp; omega, rfl⟩
  · by_cases h1 : 57343 < r ∧ r ≤ 1114111
    · obtain ⟨a, b⟩ := h1
      have c : ¬ r < 55296 := by omega
      have d : 0 ≤ r := by omega
      go_enter Tryz.func82, Tryz.ntmps82
      go_wp2
      go_ret
      exact ⟨by simp; omega, rfl⟩
    · go_enter Tryz.func82, Tryz.ntmps82
      by_cases a : 0 ≤ r
      · have b : ¬ r < 55296 := by omega
        by_cases c : 57343 < r
        · have d : ¬ r ≤ 1114111 := by omega
          go_wp2
          go_ret
          exact ⟨by simp; omega, rfl⟩
        · go_wp2
          go_ret
          exact ⟨by simp; omega, rfl⟩
      · have c : ¬ 57343 < r := by omega
        go_wp2
        go_ret
        exact ⟨by simp; omega, rfl⟩
end Go.Proofs.YtmdaianbhpppfaaGreatDoor
namespace Go.Proofs.YtmdaianbhpppfaaGreatDoor
open Go.RowKit

set_option maxRecDepth 100000 in
theorem idx_low : ∀ n : Fin 128, Lib.indexByte sgS.data.toList ((n.val : Int).toNat.toUInt8) = dgV n.val := by decide
set_option maxRecDepth 100000 in
theorem signs_low (n : Nat) (h : n < 128) (w : World) :
    Calls Tryz.prog 62 #[.string sgS, .int .i32 n] w fun e w' => e = .returned (.int .i64 (dgV n)) ∧ w = w' := by
  have hi := idx_low ⟨n, h⟩
  simp only at hi
  have hC := fun w => strIndexByte_any sgS n w
  rw [hi] at hC
  have h0 : (0 : Int) ≤ n := by omega
  have h1 : (n : Int) < 128 := by omega
  have s1 : IntKind.u8.wrap (n : Int) = n := IntWalk.u8_in _ (by omega)
  generalize dgV n = V at hC ⊢
  clear hi
  go_enter Tryz.func62, Tryz.ntmps62
  go_wp2_with (go_at_call 81; refine (hC _).mono ?_; rintro e w' ⟨rfl, rfl⟩)
  go_ret
  exact ⟨rfl, rfl⟩

theorem idx_no : ∀ (l : List UInt8) (c : UInt8), (∀ b ∈ l, b ≠ c) → Lib.indexByte l c = -1
  | [], _, _ => rfl
  | b :: l, c, h => by
    have h1 : (b == c) = false := beq_eq_false_iff_ne.2 (h b (List.mem_cons_self ..))
    have h2 := idx_no l c (fun x hx => h x (List.mem_cons_of_mem _ hx))
    unfold Lib.indexByte
    rw [h1, h2]
    rfl
theorem enc_high (r : Int) (h : 128 ≤ r) (hv : Utf8.valid r = true) : ∃ c : UInt8, 128 ≤ c.toNat ∧ ((∃ a, Utf8.encode r = ⟨#[a, c]⟩) ∨ (∃ a b, Utf8.encode r = ⟨#[a, b, c]⟩) ∨ (∃ a b d, Utf8.encode r = ⟨#[a, b, d, c]⟩)) := by
  have hr : r ≤ 1114111 := by unfold Utf8.valid at hv; simp at hv; omega
  obtain ⟨n, rfl⟩ : ∃ n : Nat, r = n := ⟨r.toNat, by omega⟩
  have hm : n % 64 < 64 := Nat.mod_lt _ (by omega)
  have hb : 128 ≤ (UInt8.ofNat (128 + n % 64)).toNat := by rw [UInt8.toNat_ofNat']; omega
  refine ⟨_, hb, ?_⟩
  unfold Utf8.encode
  rw [if_pos hv, Int.toNat_natCast]
  simp only
  have h0 : ¬ n < 128 := by omega
  by_cases h1 : n < 2048
  · exact .inl ⟨UInt8.ofNat (192 + n / 64), by simp only [h0, h1, if_true, if_false]⟩
  · by_cases h2 : n < 65536
    · exact .inr (.inl ⟨UInt8.ofNat (224 + n / 4096), UInt8.ofNat (128 + n / 64 % 64), by simp only [h0, h1, h2, if_true, if_false]⟩)
    · exact .inr (.inr ⟨UInt8.ofNat (240 + n / 262144), UInt8.ofNat (128 + n / 4096 % 64), UInt8.ofNat (128 + n / 64 % 64), by simp only [h0, h1, h2, if_false]⟩)

theorem sgS_low : ∀ q, q < 16 → ∃ h : q < sgS.size, (sgS[q]'h).toNat < 128 := by
  intro q h
  have : ∀ q : Fin 16, ∃ h : q.val < sgS.size, (sgS[q.val]'h).toNat < 128 := by decide
  have hh := this ⟨q, h⟩
  exact hh
set_option maxRecDepth 100000 in
set_option maxHeartbeats 1600000 in
theorem signs_bad (w : World) :
    Calls Tryz.prog 62 #[.string sgS, .int .i32 65533] w fun e w' => e = .returned (.int .i64 (-1)) ∧ Below w.heap.size w w' := by
  go_enter Tryz.func62, Tryz.ntmps62
  go_wp2
  go_loopw [5, 6] (fun _ _ wr => ∃ pos : Nat, pos ≤ 16 ∧ wr.heap[w.heap.size]? = some (.stringIter sgS pos) ∧ Below w.heap.size w wr) (fun _ _ wr => 17 - wr.iterPos w.heap.size)
  case atStart =>
    exact ⟨0, by omega, World.iter_heap w sgS 0, (Below.refl _ w).alloc (Nat.le_refl _) _⟩
  case round =>
    obtain ⟨pos, hp, hit, hb⟩ := hrel
    have hsz : w.heap.size < wr.heap.size := (Array.getElem?_eq_some_iff.1 hit).1
    by_cases h : pos < 16
    · obtain ⟨hq, ha⟩ := sgS_low pos h
      have hnx : ∀ ty, (Instr.next (.pointer (some ⟨w.heap.size, 0, none⟩)) true ty).run Tryz.prog wr = _ := fun ty => Lib.run_next_ascii_at wr w.heap.size sgS pos ty hit hq ha
      have hit2 := Lib.iterAt_heap wr w.heap.size sgS pos (pos + 1) hit
      have hb2 := Lib.below_iterAt hb (k := w.heap.size) (Nat.le_refl _) sgS (pos + 1)
      have hx : (((sgS[pos]'hq).toNat : Nat) : Int) ≠ 65533 := by omega
      generalize (((sgS[pos]'hq).toNat : Nat) : Int) = x at hnx hx
      generalize wr.iterAt w.heap.size sgS (pos + 1) = w2 at hnx hit2 hb2
      clear ha
      go_wp2
      go_roundw
      case rel => exact ⟨pos + 1, by omega, hit2, hb2⟩
      case measure => simp only [World.iterPos, hit, hit2]; omega
    · have hnx : ∀ ty, (Instr.next (.pointer (some ⟨w.heap.size, 0, none⟩)) true ty).run Tryz.prog wr = _ := fun ty => Lib.run_next_end_at wr w.heap.size sgS pos ty hit (by have : sgS.size = 16 := rfl; omega)
      go_wp2
      go_ret
      exact ⟨rfl, hb⟩

/-- No byte of a rune's that is no sign of ASCII stands among the signs. -/
theorem idx_cut (c : UInt8) (hc : 128 ≤ c.toNat) : Lib.indexByte [50, 51, 52, 53, 54, 55, 56, 57, 97, 98, 99, 100, 101, 102] c = -1 ∧ Lib.indexByte [51, 52, 53, 54, 55, 56, 57, 97, 98, 99, 100, 101, 102] c = -1 ∧ Lib.indexByte [52, 53, 54, 55, 56, 57, 97, 98, 99, 100, 101, 102] c = -1 := by
  have h : ∀ l : List UInt8, (∀ b ∈ l, b.toNat < 128) → Lib.indexByte l c = -1 := fun l hl => idx_no l c (fun b hb e => by have := hl b hb; rw [e] at this; omega)
  refine ⟨h _ (by decide), h _ (by decide), h _ (by decide)⟩
theorem ix_lit {t : TypeId} (ht : Tryz.prog.underlying t = some .string) (s : ByteArray) (i : Nat) (h : i < s.size) (x : UInt8) (hx : s[i]'h = x) (k : IntKind) (w : World) : (Instr.index t (.string s) (.int k i)).run Tryz.prog w = .ok (.int .u8 x.toNat) w := by
  rw [run_index_string w t _ k _ ht, dif_pos (by omega)]
  simp only [Int.toNat_natCast, hx]
end Go.Proofs.YtmdaianbhpppfaaGreatDoor
namespace Go.Proofs.YtmdaianbhpppfaaGreatDoor
open Go.RowKit

set_option maxRecDepth 100000 in
set_option maxHeartbeats 1600000 in
theorem signs_one (m : Nat) (E : ByteArray) (c : UInt8) (r : Int) (w : World) (h : 128 ≤ r) (hr : r ≠ 65533) (hv : Utf8.valid r = true) (hc : 128 ≤ c.toNat) (hE : Utf8.encode r = E) (hm : m = 1 ∨ m = 2 ∨ m = 3) (hs : E.size = m + 1) (hx : ∃ h : m < E.size, E[m]'h = c) :
    Calls Tryz.prog 62 #[.string sgS, .int .i32 r] w fun e w' => e = .returned (.int .i64 (-1)) ∧ ∃ n, w' = w.drewN n := by
  obtain ⟨hl, hx⟩ := hx
  have hh : (0 : Int) ≤ r ∧ ¬ r < 128 := by omega
  obtain ⟨h0, h1⟩ := hh
  have p1 := fun (k : IntKind) (w : World) => ix_lit Tryz.underlying9 E m hl c hx k w
  have hv' := hide hv
  clear hx
  have hnn : Lib.indexByte (sgS.data.toList.drop (m + 1)) c.toNat.toUInt8 = -1 := by
    have e : c.toNat.toUInt8 = c := by simp
    rw [e]
    refine idx_no _ c (fun b hb e => ?_)
    have h1 : ∀ b ∈ sgS.data.toList, b.toNat < 128 := by decide
    have h2 := h1 b (List.mem_of_mem_drop hb)
    rw [e] at h2
    omega
  have p3 : ∀ (k : IntKind) (w : World), (Instr.slice 9 (.string sgS) (some (.int k ((m : Int) + 1))) none none).run Tryz.prog w = .ok (.string ⟨(sgS.data.toList.drop (m + 1)).toArray⟩) w := fun k w => by
    have h16 : sgS.size = 16 := rfl
    rw [run_slice_string_from_if w _ _ k _ Tryz.underlying9, if_pos (by rw [h16]; omega), show ((m : Int) + 1).toNat = m + 1 by omega, h16]
    rcases hm with rfl | rfl | rfl <;> rfl
  have p4 : ∃ x : Int, x ≠ c.toNat ∧ ∀ (k : IntKind) (w : World), (Instr.index 9 (.string sgS) (.int k m)).run Tryz.prog w = .ok (.int .u8 x) w := by
    obtain ⟨hq, ha⟩ := sgS_low m (by omega)
    exact ⟨(sgS[m]'hq).toNat, by omega, fun k w => ix_lit Tryz.underlying9 sgS m hq _ rfl k w⟩
  obtain ⟨x, hxc, p4⟩ := p4
  have hC := fun w => strIndexByte_any ⟨(sgS.data.toList.drop (m + 1)).toArray⟩ c.toNat w
  simp only [Int.toNat_natCast] at hC
  rw [hnn] at hC
  generalize (⟨(sgS.data.toList.drop (m + 1)).toArray⟩ : ByteArray) = D at p3 hC
  have hm3 : 1 ≤ m ∧ m ≤ 3 := by omega
  obtain ⟨m1, m3⟩ := hm3
  have hV := fun w => validRune_any r w
  rw [hv] at hV
  have s1 : IntKind.i64.wrap ((E.size : Nat) : Int) = m + 1 := by rw [hs]; exact IntWalk.i64_in _ (by omega)
  have s2 : IntKind.i64.wrap ((m : Int) + 1 - 1) = m := by rw [show (m : Int) + 1 - 1 = m by omega]; exact IntWalk.i64_in _ (by omega)
  have s3 : IntKind.i64.wrap ((m : Int) + 1) = (m : Int) + 1 := IntWalk.i64_in _ (by omega)
  have q0 : ((E.size : Nat) : Int) = m + 1 := by omega
  generalize (c.toNat : Int) = C at p1 hC hxc
  have hm16 : (m : Int) < 16 := by omega
  clear hs hl hv hnn hm
  go_enter Tryz.func62, Tryz.ntmps62
  go_wp2_with (go_at_call 82; refine (hV _).mono ?_; rintro e w' ⟨rfl, rfl⟩)
  go_wp2
  refine wp_scope_straight ?_
  go_wp2
  clear hE
  refine wp_loop_rounds 1 ?_
  rw [rounds_succ]
  go_wp2
  refine wp_scope_straight ?_
  go_wp2
  go_quiet (fail)
  go_wp2
  obtain ⟨W1, hW1⟩ : ∃ W1, W1 = w.drewN nq := ⟨_, rfl⟩
  rw [← hW1]
  have hW := hide hW1
  clear hW1
  go_quiet (first | (go_at_call 81; exact Calls.quiet_of_same ((hC _).mono (fun e w' h => ⟨h.1, h.2.symm⟩))))
  go_wp2
  simp only [Exit.noGoto, Exit.inBlock, Exit.then]
  go_ret
  exact ⟨rfl, _, by rw [hW.out, World.drewN_drewN]⟩
set_option maxRecDepth 100000 in
/-- Where a rune from 128 on stands: nowhere. -/
theorem signs_high (r : Int) (h : 128 ≤ r) (w : World) :
    Calls Tryz.prog 62 #[.string sgS, .int .i32 r] w fun e w' => e = .returned (.int .i64 (-1)) ∧ Below w.heap.size w w' := by
  by_cases hr : r = 65533
  · subst hr
    exact signs_bad w
  · by_cases hv : Utf8.valid r = true
    · have key : ∀ m E c, 128 ≤ c.toNat → Utf8.encode r = E → (m = 1 ∨ m = 2 ∨ m = 3) → E.size = m + 1 → (∃ h : m < E.size, E[m]'h = c) → Calls Tryz.prog 62 #[.string sgS, .int .i32 r] w fun e w' => e = .returned (.int .i64 (-1)) ∧ Below w.heap.size w w' := fun m E c hc hE hm hs hx =>
        (signs_one m E c r w h hr hv hc hE hm hs hx).mono (fun e w' ⟨h1, n, h2⟩ => ⟨h1, by rw [h2]; exact ⟨rfl, rfl, rfl, Nat.le_refl _, fun _ _ => rfl⟩⟩)
      obtain ⟨c, hc, ⟨a, hE⟩ | ⟨a, b, hE⟩ | ⟨a, b, d, hE⟩⟩ := enc_high r h hv
      · exact key 1 _ c hc hE (.inl rfl) rfl ⟨by show 1 < 2; omega, rfl⟩
      · exact key 2 _ c hc hE (.inr (.inl rfl)) rfl ⟨by show 2 < 3; omega, rfl⟩
      · exact key 3 _ c hc hE (.inr (.inr rfl)) rfl ⟨by show 3 < 4; omega, rfl⟩
    · have hv' : Utf8.valid r = false := by simpa using hv
      have hV := fun w => validRune_any r w
      rw [hv'] at hV
      have h1 : ¬ r < 128 := by omega
      have h0 : 0 ≤ r := by omega
      clear hv hv'
      go_enter Tryz.func62, Tryz.ntmps62
      go_wp2_with (go_at_call 82; refine (hV _).mono ?_; rintro e w' ⟨rfl, rfl⟩)
      go_ret
      exact ⟨rfl, Below.refl _ _⟩
end Go.Proofs.YtmdaianbhpppfaaGreatDoor
namespace Go.Proofs.YtmdaianbhpppfaaGreatDoor
open Go.RowKit

/-- The number that a word is, in a base; -1: none. -/
def nmV (base : Int) (l : List Int) : Int := if l.length < 1 ∨ l.getD 0 0 = 48 ∧ 1 < l.length then -1 else if numV base 0 l < 0 ∨ 999999 < numV base 0 l then -1 else numV base 0 l
theorem numV_mono {base : Int} (hb : 1 ≤ base) : ∀ (r : List Int) (a : Int), 0 ≤ a → numV base a r < 0 ∨ a ≤ numV base a r
  | [], a, ha => .inr (by rw [show numV base a [] = a from rfl]; omega)
  | c :: r, a, ha => by
    rw [numV_cons]
    by_cases h : dgB base c < 0
    · rw [if_pos h]; exact .inl (by omega)
    · rw [if_neg h]
      have h1 : a ≤ a * base := by
        have := Int.mul_le_mul_of_nonneg_left hb ha
        omega
      rcases numV_mono hb r (a * base + dgB base c) (by omega) with h2 | h2
      · exact .inl h2
      · exact .inr (by omega)
theorem numV_app {base : Int} : ∀ (m r : List Int) (a : Int), numV base a (m ++ r) = if numV base a m < 0 ∧ ¬ (m = []) then numV base a (m ++ r) else numV base (numV base a m) r
  | [], r, a => by simp [numV]
  | c :: m, r, a => by
    rw [List.cons_append, numV_cons, numV_cons]
    by_cases h : dgB base c < 0
    · rw [if_pos h, if_pos h, if_pos ⟨by omega, by simp⟩]
    · rw [if_neg h, if_neg h]
      by_cases h2 : numV base (a * base + dgB base c) m < 0
      · rw [if_pos ⟨h2, by simp⟩]
      · rw [if_neg (fun h => h2 h.1), numV_app m r, if_neg (fun h => h2 h.1)]
theorem nmV_short {base : Int} {l : List Int} (h : l.length < 1 ∨ l.getD 0 0 = 48 ∧ 1 < l.length) : nmV base l = -1 := by unfold nmV; rw [if_pos h]
theorem nmV_bad {base : Int} {l : List Int} (h : numV base 0 l < 0 ∨ 999999 < numV base 0 l) : nmV base l = -1 := by unfold nmV; rw [if_pos h]; split <;> rfl
theorem nmV_good {base : Int} {l : List Int} (h0 : ¬ (l.length < 1 ∨ l.getD 0 0 = 48 ∧ 1 < l.length)) (h : ¬ (numV base 0 l < 0 ∨ 999999 < numV base 0 l)) : nmV base l = numV base 0 l := by unfold nmV; rw [if_neg h0, if_neg h]
theorem nmV_over {base : Int} {l : List Int} (hb : 1 ≤ base) {j : Nat} (h0 : 999999 < numV base 0 (l.take j)) : nmV base l = -1 := by
  refine nmV_bad ?_
  have e := numV_app (base := base) (l.take j) (l.drop j) 0
  rw [if_neg (fun h => by omega), List.take_append_drop] at e
  rcases numV_mono hb (l.drop j) (numV base 0 (l.take j)) (by omega) with h | h
  · exact .inl (by omega)
  · exact .inr (by omega)
theorem nmV_range (base : Int) (l : List Int) : -1 ≤ nmV base l ∧ nmV base l ≤ 999999 := by
  unfold nmV
  split
  · omega
  · split
    · omega
    · omega
theorem nmV_dec (l : List Int) : numL 10 6 l = nmV 10 l := by
  have len : 0 ≤ numV 10 0 l → ¬ (l.length < 1 ∨ l.getD 0 0 = 48 ∧ 1 < l.length) → l = digL 10 (numV 10 0 l).toNat := fun h h0 => numV_one (b := 10) (by omega) (by omega) l.length l rfl (by omega) (fun h => h0 (.inr h)) h
  by_cases h0 : l.length < 1 ∨ l.getD 0 0 = 48 ∧ 1 < l.length
  · rw [nmV_short h0]
    unfold numL
    rw [if_pos (by rcases h0 with h | h; exact .inl h; exact .inr (.inr h))]
  · by_cases hv : numV 10 0 l < 0 ∨ 999999 < numV 10 0 l
    · rw [nmV_bad hv]
      unfold numL
      split
      · rfl
      · rename_i hq
        rcases hv with hv | hv
        · exact numV_neg (by omega) l 0 (by omega) hv
        · exfalso
          have hb := numL_back (b := 10) (most := 6) (n := (numV 10 0 l).toNat) (by omega) (by omega)
          have e := len (by omega) h0
          have hs : ∀ k : Nat, l.length ≤ k → ∀ x, 0 ≤ numV 10 0 (l.take x) → x ≤ l.length → numV 10 0 (l.take x) < 10 ^ x := by
            intro k _ x
            induction x with
            | zero => intro _ _; simp [numV]
            | succ i ih =>
              intro hp hi
              by_cases hn : numV 10 0 (l.take i) < 0
              · have : l.take (i + 1) = l.take i ++ [l[i]] := List.take_succ_eq_append_getElem (by omega)
                rw [this, numV_bad (by omega) _ _ hn] at hp
                omega
              · have h1 := ih (by omega) (by omega)
                rw [numV_take (by omega) (by omega) (by omega)] at hp ⊢
                by_cases hd : dgB 10 l[i] < 0
                · rw [if_pos hd] at hp; omega
                · rw [if_neg hd]
                  have h2 := (dgB_lt 10 l[i]).2 (by omega)
                  rw [Int.pow_succ]
                  omega
          have h6 := hs l.length (Nat.le_refl _) l.length (by rw [List.take_length]; omega) (Nat.le_refl _)
          rw [List.take_length] at h6
          have hp : (10 : Int) ^ l.length ≤ 10 ^ 6 := by
            have := Nat.pow_le_pow_right (n := 10) (by omega) (show l.length ≤ 6 by omega)
            exact_mod_cast this
          omega
    · rw [nmV_good h0 hv]
      have e := len (by omega) h0
      have h6 := digL_len (b := 10) (by omega) 5 (numV 10 0 l).toNat (by omega)
      rw [← e] at h6
      unfold numL
      rw [if_neg (by omega)]
theorem nmV_hex (l : List Int) : (if 999999 < numL 16 5 l then -1 else numL 16 5 l) = nmV 16 l := by
  have len : 0 ≤ numV 16 0 l → ¬ (l.length < 1 ∨ l.getD 0 0 = 48 ∧ 1 < l.length) → l = digL 16 (numV 16 0 l).toNat := fun h h0 => numV_one (b := 16) (by omega) (by omega) l.length l rfl (by omega) (fun h => h0 (.inr h)) h
  by_cases h0 : l.length < 1 ∨ l.getD 0 0 = 48 ∧ 1 < l.length
  · rw [nmV_short h0]
    have : numL 16 5 l = -1 := by unfold numL; rw [if_pos (by rcases h0 with h | h; exact .inl h; exact .inr (.inr h))]
    rw [this]; rfl
  · by_cases hv : numV 16 0 l < 0 ∨ 999999 < numV 16 0 l
    · rw [nmV_bad hv]
      unfold numL
      by_cases hq : l.length < 1 ∨ 5 < l.length ∨ l.getD 0 0 = 48 ∧ 1 < l.length
      · rw [if_pos hq]; rfl
      · rw [if_neg hq]
        rcases hv with hv | hv
        · rw [numV_neg (by omega) l 0 (by omega) hv]; rfl
        · rw [if_pos hv]
    · rw [nmV_good h0 hv]
      have e := len (by omega) h0
      have h6 := digL_len (b := 16) (by omega) 4 (numV 16 0 l).toNat (by omega)
      rw [← e] at h6
      have : numL 16 5 l = numV 16 0 l := by unfold numL; rw [if_neg (by omega)]
      rw [this, if_neg (by omega)]
end Go.Proofs.YtmdaianbhpppfaaGreatDoor
namespace Go.Proofs.YtmdaianbhpppfaaGreatDoor
open Go.RowKit

/-- The answer's cell is laid, and the iterator behind it. -/
def NumAt (w : World) (o : Obj) (s : ByteArray) (j : Nat) (wr : World) : Prop :=
  Below (w.heap.size + 1) (w.alloc o) wr ∧ wr.heap[w.heap.size + 1]? = some (.stringIter s j)
theorem NumAt.below {w : World} {o : Obj} {s : ByteArray} {j : Nat} {wr : World} (h : NumAt w o s j wr) : Below (w.alloc o).heap.size (w.alloc o) wr := by
  have : (w.alloc o).heap.size = w.heap.size + 1 := by simp
  rw [this]; exact h.1
theorem NumAt.size {w : World} {o : Obj} {s : ByteArray} {j : Nat} {wr : World} (h : NumAt w o s j wr) : w.heap.size + 1 < wr.heap.size := (Array.getElem?_eq_some_iff.1 h.2).1
theorem NumAt.on {w : World} {o : Obj} {s : ByteArray} {j : Nat} {wr w2 : World} (h : NumAt w o s j wr) (hb : Below wr.heap.size wr w2) : NumAt w o s j w2 :=
  ⟨h.1.trans (hb.mono (Nat.le_of_lt h.size)), (hb.block (w.heap.size + 1) h.size).trans h.2⟩
theorem NumAt.next {w : World} {o : Obj} {s : ByteArray} {j : Nat} {wr : World} (h : NumAt w o s j wr) (j' : Nat) : NumAt w o s j' (wr.iterAt (w.heap.size + 1) s j') :=
  ⟨Lib.below_iterAt h.1 (Nat.le_refl _) s j', Lib.iterAt_heap wr (w.heap.size + 1) s j j' h.2⟩
theorem NumAt.alloc {w : World} {o : Obj} {s : ByteArray} {j : Nat} {wr : World} (h : NumAt w o s j wr) (o2 : Obj) : NumAt w o s j (wr.alloc o2) := h.on ((Below.refl _ _).alloc (Nat.le_refl _) _)

theorem NumAt.facts {w : World} {s : ByteArray} {j : Nat} {wr : World} {t : TypeId} (h : NumAt w (Obj.cells #[.int .i64 0, .int .i64 0] t) s j wr) :
    wr.cell? ⟨w.heap.size, 0, none⟩ = some (.int .i64 0) ∧ wr.cell? ⟨w.heap.size, 1, none⟩ = some (.int .i64 0) ∧ wr.frozen? ⟨w.heap.size, 0, none⟩ = false ∧ wr.frozen? ⟨w.heap.size, 1, none⟩ = false ∧ Below w.heap.size w wr :=
  ⟨res_cell h.below 0, res_cell h.below 1, res_frozen h.below 0, res_frozen h.below 1, below_alloc h.below⟩

set_option maxRecDepth 100000 in
set_option maxHeartbeats 1600000 in
theorem numberIn_any (base : Int) (l : List Int) (w : World) (hb : base = 10 ∨ base = 16) (b8 : B8 l) (hl : l.length ≤ maxLen) :
    Calls Tryz.prog 39 #[.int .i64 base, .int .i64 999999, .string (strOfNums l)] w fun e w' => e = .returned (intV (inC (nmV base l)) (inV (nmV base l))) ∧ Below w.heap.size w w' := by
  unfold maxLen at hl
  have z0 := strOfNums_size l
  by_cases a : l.length < 1
  · obtain rfl : l = [] := by cases l; rfl; simp at a
    rw [nmV_short (.inl a)]
    have n0 : (strOfNums []).toList = [] := by rw [ByteArray.toList_eq]; rfl
    go_enter Tryz.func39, Tryz.ntmps39
    go_wp2
    go_returns
    exact ⟨rfl, by go_grown⟩
  · have hne : l ≠ [] := fun h => by rw [h] at a; simp at a
    have q0 : (strOfNums l).toList.isEmpty = false := by rw [ByteArray.toList_eq]; cases l; exact absurd rfl hne; rfl
    have q1 := seq_lit b8 (m := [48]) (fun x hx => by simp at hx; omega) (u := [48]) rfl
    have hG : l.getD 0 0 = l[0] := by simp [List.getD, show 0 < l.length by omega]
    have p1 := fun (k : IntKind) (w : World) => run_sget (P := Tryz.prog) Tryz.underlying9 b8 (i := 0) (by omega) k (z := 0) rfl w
    by_cases c : l[0] = 48 ∧ 1 < l.length
    · rw [nmV_short (.inr (by rw [hG]; exact c))]
      obtain ⟨c0, c1⟩ := c
      rw [c0] at p1
      have q2 : (l == [48]) = false := beq_eq_false_iff_ne.2 (fun h => by rw [h] at c1; simp at c1)
      rw [q2] at q1
      go_enter Tryz.func39, Tryz.ntmps39
      go_wp2
      go_returns
      exact ⟨rfl, by go_grown⟩
    · have HV := hide (fun h => nmV_good (base := base) (l := l) (by rintro (h | h); exact a h; exact c ⟨by rw [← hG]; exact h.1, h.2⟩) h)
      obtain ⟨o, ho⟩ : ∃ o, o = Obj.cells #[.int .i64 0, .int .i64 0] 36 := ⟨_, rfl⟩
      go_enter Tryz.func39, Tryz.ntmps39
      have c' : l[0] = 48 → ¬ 1 < l.length := fun h h' => c ⟨h, h'⟩
      clear c
      have s7 : l[0] ≠ 48 ∨ l[0] = 48 ∧ (l == [48]) = true := by
        by_cases h : l[0] = 48
        · refine .inr ⟨h, beq_iff_eq.2 ?_⟩
          have := c' h
          obtain ⟨x, rfl⟩ := List.length_eq_one_iff.1 (show l.length = 1 by omega)
          simp only [List.getElem_cons_zero] at h
          rw [h]
        · exact .inl h
      rcases s7 with s7 | ⟨s7, s8⟩
      all_goals
        try rw [s7] at p1
        try rw [s8] at q1
        go_wp2
        clear p1 c' s7 q0 q1
        rw [← ho]
        go_loopw [7, 9, 10] (fun v _ _ wr => ∃ j : Nat, j ≤ l.length ∧ v = .int .i64 (numV base 0 (l.take j)) ∧ 0 ≤ numV base 0 (l.take j) ∧ numV base 0 (l.take j) ≤ 999999 ∧ NumAt w o (strOfNums l) j wr) (fun _ _ _ wr => (strOfNums l).size + 1 - wr.iterPos (w.heap.size + 1))
        case atStart =>
          refine ⟨0, by omega, rfl, by simp [numV], by simp [numV], ?_, ?_⟩
          · rw [ho]; exact ((Below.refl _ _).alloc (by simp) _)
          · have := World.iter_heap (w.alloc o) (strOfNums l) 0
            simpa using this
        case round =>
          obtain ⟨j, hj, rfl, hn0, hn9, hat⟩ := hrel
          have hsz := hat.size
          by_cases hp : j < l.length
          · obtain ⟨hg0, hg1⟩ := b8.get j hp
            have hq : j < (strOfNums l).size := by omega
            have hgt := strS_get b8 j hq hp
            have hT := numV_take (show (0 : Int) ≤ base by omega) hp hn0
            have hat2 := hat.next (j + 1)
            by_cases h0 : dgB base l[j] < 0
            · rw [if_pos h0] at hT
              have hN : nmV base l = -1 := by
                have := numV_bad (show (0 : Int) ≤ base by omega) (l.drop (j + 1)) (l.take (j + 1)) (by rw [hT]; omega)
                rw [List.take_append_drop] at this
                exact nmV_bad (.inl (by omega))
              have HN := hide hN
              clear hN
              have hX : ∃ (r d : Int) (j2 : Nat), (d < 0 ∨ base - 1 < d) ∧ (∀ ty, (Instr.next (.pointer (some ⟨w.heap.size + 1, 0, none⟩)) true ty).run Tryz.prog wr = .ok (.tuple #[.bool true, .int .i64 j, .int .i32 r]) (wr.iterAt (w.heap.size + 1) (strOfNums l) j2)) ∧
                  ∀ w, Calls Tryz.prog 62 #[.string sgS, .int .i32 r] w fun e w' => e = .returned (.int .i64 d) ∧ Below w.heap.size w w' := by
                by_cases ha : l[j] < 128
                · obtain ⟨n, hn⟩ : ∃ n : Nat, l[j] = n := ⟨l[j].toNat, by omega⟩
                  refine ⟨n, dgV n, j + 1, ?_, fun ty => ?_, fun w => (signs_low n (by omega) w).mono (fun e w' ⟨h1, h2⟩ => ⟨h1, h2 ▸ Below.refl _ _⟩)⟩
                  · rw [hn] at h0
                    unfold dgB at h0
                    by_cases hb2 : base ≤ dgV n
                    · exact .inr (by omega)
                    · rw [if_neg hb2] at h0; exact .inl h0
                  · have := Lib.run_next_ascii_at (P := Tryz.prog) wr (w.heap.size + 1) (strOfNums l) j ty hat.2 hq (by omega)
                    rw [this, hgt, hn]
                · refine ⟨((Utf8.decode (strOfNums l) j).1 : Int), -1, j + (Utf8.decode (strOfNums l) j).2, .inl (by omega), fun ty => Lib.run_next_any_at wr (w.heap.size + 1) (strOfNums l) j ty hat.2 hq, fun w => signs_high _ ?_ w⟩
                  have := (decode_high (strOfNums l) j hq (by omega)).1
                  omega
              obtain ⟨r, d, j2, hd, hnx, hC⟩ := hX
              have hat3 := hat.next j2
              generalize wr.iterAt (w.heap.size + 1) (strOfNums l) j2 = W2 at hnx hat3
              have s1 : IntKind.i64.wrap (base - 1) = base - 1 := IntWalk.i64_in _ (by omega)
              rw [ho] at hat3
              clear HV ho hat hat2 hT hgt hn0 hn9 hg0 hg1 hsz h0
              go_wp2_with (go_at_call 62; refine (hC _).mono ?_; rintro e W3 ⟨rfl, hb3⟩)
              have hat4 := hat3.on hb3
              go_wp2_with fail
              refine (allWithin_not _ _ _ _ _ _ (by simp [go_sem]) hd).mono ?_
              rintro e W4 ⟨rfl, rfl⟩
              obtain ⟨r0, r1, r2, r3, hbw⟩ := (hat4.alloc (Obj.cells #[.int .i64 d] 2)).facts
              clear hat3 hat4 hb3 hC hnx
              go_wp2
              refine bodyPost_ret (v := intV 5 0) (by simp [results, Tryz.results39, go_sem, r0, r1]) rfl ?_
              exact ⟨by rw [HN.out]; rfl, (hbw.setCell (Nat.le_refl _) _).setCell (Nat.le_refl _) _⟩
            · rw [if_neg h0] at hT
              have hD := dgB_lt base l[j]
              have ha : l[j] < 128 := by
                unfold dgB at h0
                unfold dgV at h0
                by_cases x1 : 48 ≤ l[j] ∧ l[j] ≤ 57
                · omega
                · rw [if_neg x1] at h0
                  by_cases x2 : 97 ≤ l[j] ∧ l[j] ≤ 102
                  · omega
                  · rw [if_neg x2] at h0
                    split at h0 <;> omega
              obtain ⟨n, hn⟩ : ∃ n : Nat, l[j] = n := ⟨l[j].toNat, by omega⟩
              have hdv : dgV n = dgB base l[j] := by
                rw [hn] at h0 ⊢
                unfold dgB at h0 ⊢
                by_cases hb2 : base ≤ dgV n
                · rw [if_pos hb2] at h0; omega
                · rw [if_neg hb2]
              have hC := fun w => signs_low n (by omega) w
              have hnx := fun ty => Lib.run_next_ascii_at (P := Tryz.prog) wr (w.heap.size + 1) (strOfNums l) j ty hat.2 hq (by omega)
              rw [hgt, hn] at hnx
              rw [hdv] at hC
              generalize dgB base l[j] = D at hT hD hC h0
              generalize wr.iterAt (w.heap.size + 1) (strOfNums l) (j + 1) = W2 at hnx hat2
              have h3 : numV base 0 (l.take j) * base ≤ numV base 0 (l.take j) * 16 := Int.mul_le_mul_of_nonneg_left (by omega) hn0
              have h4 : 0 ≤ numV base 0 (l.take j) * base := Int.mul_nonneg hn0 (by omega)
              have h5 := hD.2 (by omega)
              have hO := hide (fun h => nmV_over (base := base) (l := l) (by omega) (j := j + 1) h)
              have s1 : IntKind.i64.wrap (base - 1) = base - 1 := IntWalk.i64_in _ (by omega)
              have s2 : IntKind.i64.wrap (numV base 0 (l.take j) * base) = numV base 0 (l.take j) * base := IntWalk.i64_in _ (by omega)
              have s3 : IntKind.i64.wrap (numV base 0 (l.take j) * base + D) = numV base 0 (l.take j) * base + D := IntWalk.i64_in _ (by omega)
              rw [ho] at hat2
              have HT := hide hT
              have hit := hide hat.2
              have hin : 0 ≤ D ∧ D ≤ base - 1 := by omega
              generalize hV : numV base 0 (l.take j) = V at hnx s2 s3 HT h3 h4 hn0 hn9 ⊢
              clear HV hat hT hgt hg0 hg1 hsz h0 ha hn hdv hD
              go_wp2_with (go_at_call 62; refine (hC _).mono ?_; rintro e W3 ⟨rfl, rfl⟩)
              go_wp2_with fail
              refine (allWithin_one _ _ _ _ _ _ (by simp [go_sem]) hin).mono ?_
              rintro e W4 ⟨rfl, rfl⟩
              have hat5 := hat2.alloc (Obj.cells #[.int .i64 D] 2)
              by_cases hov : 999999 < V * base + D
              · have hN := hide (hO.out (by rw [HT.out]; exact hov))
                obtain ⟨r0, r1, r2, r3, hbw⟩ := hat5.facts
                clear hat2 hat5 hC hnx ho
                go_wp2
                refine bodyPost_ret (v := intV 5 0) (by simp [results, Tryz.results39, go_sem, r0, r1]) rfl ?_
                exact ⟨by rw [hN.out]; rfl, (hbw.setCell (Nat.le_refl _) _).setCell (Nat.le_refl _) _⟩
              · generalize W2.alloc (Obj.cells #[.int .i64 D] 2) = W5 at hat5 ⊢
                go_wp2
                go_roundw
                case rel => exact ⟨j + 1, by omega, by rw [HT.out], by rw [HT.out]; omega, by rw [HT.out]; omega, by rw [ho]; exact hat5⟩
                case measure => simp only [World.iterPos, hit.out, hat5.2]; omega
          · have hnx : ∀ ty, (Instr.next (.pointer (some ⟨w.heap.size + 1, 0, none⟩)) true ty).run Tryz.prog wr = _ := fun ty => Lib.run_next_end_at wr (w.heap.size + 1) (strOfNums l) j ty hat.2 (by omega)
            have e1 : l.take j = l := List.take_of_length_le (by omega)
            rw [e1] at hn0 hn9 ⊢
            have hv := HV.out (by omega)
            rw [ho] at hat
            obtain ⟨r0, r1, r2, r3, hbw⟩ := hat.facts
            clear ho HV hat
            go_wp2
            refine bodyPost_ret (v := intV 0 (numV base 0 l)) (by simp [results, Tryz.results39, go_sem, r0, r1]) rfl ?_
            have i0 : ¬ numV base 0 l < 0 := by omega
            exact ⟨by rw [hv]; unfold inC inV; rw [if_neg i0, if_neg i0], (hbw.setCell (Nat.le_refl _) _).setCell (Nat.le_refl _) _⟩
end Go.Proofs.YtmdaianbhpppfaaGreatDoor
