/- Where a rune stands among the signs of the digits: strings.IndexRune at that one string. The library's own text is walked. -/
import Derived.Test.YtmdaianbhpppfaaSig
import Derived.Deep.QuietTactic
import Derived.BigQuiet
namespace Go.Proofs.Ytmdaianbhpppfaa
open Go.RowKit

set_option maxRecDepth 100000 in
theorem idx_low : ∀ n : Fin 128, Lib.indexByte sgS.data.toList ((n.val : Int).toNat.toUInt8) = dgV n.val := by decide
set_option maxRecDepth 100000 in
theorem signs_low (n : Nat) (h : n < 128) (w : World) :
    Calls Try.prog 15 #[.string sgS, .int .i32 n] w fun e w' => e = .returned (.int .i64 (dgV n)) ∧ w = w' := by
  have hi := idx_low ⟨n, h⟩
  simp only at hi
  have hC := fun w => strIndexByte_any sgS n w
  rw [hi] at hC
  have h0 : (0 : Int) ≤ n := by omega
  have h1 : (n : Int) < 128 := by omega
  have s1 : IntKind.u8.wrap (n : Int) = n := IntWalk.u8_in _ (by omega)
  generalize dgV n = V at hC ⊢
  clear hi
  go_enter Try.func15, Try.ntmps15
  go_wp2_with (go_at_call 19; refine (hC _).mono ?_; rintro e w' ⟨rfl, rfl⟩)
  go_ret
  exact ⟨rfl, rfl⟩

theorem idx_no : ∀ (l : List UInt8) (c : UInt8), (∀ b ∈ l, b ≠ c) → Lib.indexByte l c = -1
  | [], _, _ => rfl
  | b :: l, c, h => by
    have h1 : (b == c) = false := beq_eq_false_iff_ne.2 (h b (List.mem_cons_self ..))
    have h2 := idx_no l c (fun x hx => h x (List.mem_cons_of_mem _ hx))
    unfold Lib.indexByte
    rw [h1, h2]
    rfl
theorem enc_high (r : Int) (h : 128 ≤ r) (hv : Utf8.valid r = true) : ∃ c : UInt8, 128 ≤ c.toNat ∧ ((∃ a, Utf8.encode r = ⟨#[a, c]⟩) ∨ (∃ a b, Utf8.encode r = ⟨#[a, b, c]⟩) ∨ (∃ a b d, Utf8.encode r = ⟨#[a, b, d, c]⟩)) := by
  have hr : r ≤ 1114111 := by unfold Utf8.valid at hv; simp at hv; omega
  obtain ⟨n, rfl⟩ : ∃ n : Nat, r = n := ⟨r.toNat, by omega⟩
  have hm : n % 64 < 64 := Nat.mod_lt _ (by omega)
  have hb : 128 ≤ (UInt8.ofNat (128 + n % 64)).toNat := by rw [UInt8.toNat_ofNat']; omega
  refine ⟨_, hb, ?_⟩
  unfold Utf8.encode
  rw [if_pos hv, Int.toNat_natCast]
  simp only
  have h0 : ¬ n < 128 := by omega
  by_cases h1 : n < 2048
  · exact .inl ⟨UInt8.ofNat (192 + n / 64), by simp only [h0, h1, if_true, if_false]⟩
  · by_cases h2 : n < 65536
    · exact .inr (.inl ⟨UInt8.ofNat (224 + n / 4096), UInt8.ofNat (128 + n / 64 % 64), by simp only [h0, h1, h2, if_true, if_false]⟩)
    · exact .inr (.inr ⟨UInt8.ofNat (240 + n / 262144), UInt8.ofNat (128 + n / 4096 % 64), UInt8.ofNat (128 + n / 64 % 64), by simp only [h0, h1, h2, if_false]⟩)

theorem sgS_low : ∀ q, q < 16 → ∃ h : q < sgS.size, (sgS[q]'h).toNat < 128 := by
  intro q h
  have : ∀ q : Fin 16, ∃ h : q.val < sgS.size, (sgS[q.val]'h).toNat < 128 := by decide
  have hh := this ⟨q, h⟩
  exact hh
set_option maxRecDepth 100000 in
set_option maxHeartbeats 1600000 in
theorem signs_bad (w : World) :
    Calls Try.prog 15 #[.string sgS, .int .i32 65533] w fun e w' => e = .returned (.int .i64 (-1)) ∧ Below w.heap.size w w' := by
  go_enter Try.func15, Try.ntmps15
  go_wp2
  go_loopw [5, 6] (fun _ _ wr => ∃ pos : Nat, pos ≤ 16 ∧ wr.heap[w.heap.size]? = some (.stringIter sgS pos) ∧ Below w.heap.size w wr) (fun _ _ wr => 17 - wr.iterPos w.heap.size)
  case atStart =>
    exact ⟨0, by omega, World.iter_heap w sgS 0, (Below.refl _ w).alloc (Nat.le_refl _) _⟩
  case round =>
    obtain ⟨pos, hp, hit, hb⟩ := hrel
    have hsz : w.heap.size < wr.heap.size := (Array.getElem?_eq_some_iff.1 hit).1
    by_cases h : pos < 16
    · obtain ⟨hq, ha⟩ := sgS_low pos h
      have hnx : ∀ ty, (Instr.next (.pointer (some ⟨w.heap.size, 0, none⟩)) true ty).run Try.prog wr = _ := fun ty => Lib.run_next_ascii_at wr w.heap.size sgS pos ty hit hq ha
      have hit2 := Lib.iterAt_heap wr w.heap.size sgS pos (pos + 1) hit
      have hb2 := Lib.below_iterAt hb (k := w.heap.size) (Nat.le_refl _) sgS (pos + 1)
      have hx : (((sgS[pos]'hq).toNat : Nat) : Int) ≠ 65533 := by omega
      generalize (((sgS[pos]'hq).toNat : Nat) : Int) = x at hnx hx
      generalize wr.iterAt w.heap.size sgS (pos + 1) = w2 at hnx hit2 hb2
      clear ha
      go_wp2
      go_roundw
      case rel => exact ⟨pos + 1, by omega, hit2, hb2⟩
      case measure => simp only [World.iterPos, hit, hit2]; omega
    · have hnx : ∀ ty, (Instr.next (.pointer (some ⟨w.heap.size, 0, none⟩)) true ty).run Try.prog wr = _ := fun ty => Lib.run_next_end_at wr w.heap.size sgS pos ty hit (by have : sgS.size = 16 := rfl; omega)
      go_wp2
      go_ret
      exact ⟨rfl, hb⟩

/-- No byte of a rune's that is no sign of ASCII stands among the signs. -/
theorem idx_cut (c : UInt8) (hc : 128 ≤ c.toNat) : Lib.indexByte [50, 51, 52, 53, 54, 55, 56, 57, 97, 98, 99, 100, 101, 102] c = -1 ∧ Lib.indexByte [51, 52, 53, 54, 55, 56, 57, 97, 98, 99, 100, 101, 102] c = -1 ∧ Lib.indexByte [52, 53, 54, 55, 56, 57, 97, 98, 99, 100, 101, 102] c = -1 := by
  have h : ∀ l : List UInt8, (∀ b ∈ l, b.toNat < 128) → Lib.indexByte l c = -1 := fun l hl => idx_no l c (fun b hb e => by have := hl b hb; rw [e] at this; omega)
  refine ⟨h _ (by decide), h _ (by decide), h _ (by decide)⟩
theorem ix_lit {t : TypeId} (ht : Try.prog.underlying t = some .string) (s : ByteArray) (i : Nat) (h : i < s.size) (x : UInt8) (hx : s[i]'h = x) (k : IntKind) (w : World) : (Instr.index t (.string s) (.int k i)).run Try.prog w = .ok (.int .u8 x.toNat) w := by
  rw [run_index_string w t _ k _ ht, dif_pos (by omega)]
  simp only [Int.toNat_natCast, hx]
end Go.Proofs.Ytmdaianbhpppfaa
