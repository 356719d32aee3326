/- strconv.FormatInt in base 16: the loop over the signs. The library's own text is walked. -/
import Derived.Test.YtmdaianbhpppfaaGreatDoorTz
import Derived.Lib.Hide
namespace Go.Proofs.YtmdaianbhpppfaaGreatDoor
open Go.RowKit

/-- The array of the signs: pre untouched cells, then the signs that are written. -/
def HxAt (wr : World) (g : Nat) (t : TypeId) (i : Nat) (W : List Int) : Prop :=
  ∃ pre : List Value, pre.length = i ∧ i + W.length = 65 ∧ Bk wr g (pre ++ W.map fun x => Value.int .u8 x).toArray t
theorem HxAt.put {wr : World} {g : Nat} {t : TypeId} {i : Nat} {W : List Int} (h : HxAt wr g t (i + 1) W) (x : Int) : HxAt (wr.setCell ⟨g, i, none⟩ (.int .u8 x)) g t i (x :: W) := by
  obtain ⟨pre, h1, h2, h3⟩ := h
  refine ⟨pre.take i, by rw [List.length_take]; omega, by simp only [List.length_cons]; omega, ?_⟩
  have h4 := h3.set_ i (.int .u8 x)
  have e : (pre ++ W.map fun x => Value.int .u8 x).toArray.setIfInBounds i (.int .u8 x) = (pre.take i ++ (x :: W).map fun x => Value.int .u8 x).toArray := by
    rw [List.setIfInBounds_toArray]
    congr 1
    have e1 : pre = pre.take i ++ [pre[i]'(by omega)] := by
      have := List.take_succ_eq_append_getElem (l := pre) (i := i) (by omega)
      rw [← this, List.take_of_length_le (by omega)]
    conv => lhs; rw [e1]
    rw [List.append_assoc, List.set_append_right _ _ (by rw [List.length_take]; omega), show i - (pre.take i).length = 0 by rw [List.length_take]; omega]
    simp
  rw [e] at h4
  exact h4
theorem HxAt.cell {wr : World} {g : Nat} {t : TypeId} {i : Nat} {W : List Int} (h : HxAt wr g t i W) (j : Nat) (hj : j < 65) : (wr.cell? ⟨g, j, none⟩).isSome ∧ wr.frozen? ⟨g, j, none⟩ = false := by
  obtain ⟨pre, h1, h2, h3⟩ := h
  refine ⟨?_, h3.frozen j⟩
  rw [h3.cell j]
  simp [h1]
  omega
theorem HxAt.rd {wr : World} {g : Nat} {t : TypeId} {i : Nat} {W : List Int} (h : HxAt wr g t i W) : Rd .u8 wr (g + 1) (some ⟨g, i, none⟩) W := by
  obtain ⟨pre, h1, h2, h3⟩ := h
  refine fun _ => ⟨g, i, rfl, by omega, fun j hj => ?_⟩
  rw [h3.cell (i + j)]
  simp [List.getElem?_append_right (show pre.length ≤ i + j by omega), show i + j - pre.length = j by omega]
theorem dig16 (n : Nat) (h : n < 36) : ∃ hh : n < (⟨#[48, 49, 50, 51, 52, 53, 54, 55, 56, 57, 97, 98, 99, 100, 101, 102, 103, 104, 105, 106, 107, 108, 109, 110, 111, 112, 113, 114, 115, 116, 117, 118, 119, 120, 121, 122]⟩ : ByteArray).size, (((⟨#[48, 49, 50, 51, 52, 53, 54, 55, 56, 57, 97, 98, 99, 100, 101, 102, 103, 104, 105, 106, 107, 108, 109, 110, 111, 112, 113, 114, 115, 116, 117, 118, 119, 120, 121, 122]⟩ : ByteArray)[n]'hh).toNat : Int) = dg n := by
  have : ∀ n : Fin 36, ∃ hh : n.val < (⟨#[48, 49, 50, 51, 52, 53, 54, 55, 56, 57, 97, 98, 99, 100, 101, 102, 103, 104, 105, 106, 107, 108, 109, 110, 111, 112, 113, 114, 115, 116, 117, 118, 119, 120, 121, 122]⟩ : ByteArray).size, (((⟨#[48, 49, 50, 51, 52, 53, 54, 55, 56, 57, 97, 98, 99, 100, 101, 102, 103, 104, 105, 106, 107, 108, 109, 110, 111, 112, 113, 114, 115, 116, 117, 118, 119, 120, 121, 122]⟩ : ByteArray)[n.val]'hh).toNat : Int) = dg n.val := by decide
  exact this ⟨n, h⟩

set_option maxRecDepth 100000 in
set_option maxHeartbeats 3200000 in
theorem fmtBits_any (N : Nat) (w : World) (hN : N ≤ 999999) (hT : Db w) :
    Calls Tryz.prog 79 #[.slice none 0 0, .int .u64 N, .int .i64 16, .bool false, .bool false] w fun e w' => e = .returned (.tuple #[.slice none 0 0, .string (strOfNums (digL 16 N))]) ∧ Below w.heap.size w w' := by
  have hlen := digL_len (b := 16) (by omega) 4 N (by omega)
  go_enter Tryz.func79, Tryz.ntmps79
  go_wp2_with (first | (go_at_call 93; refine (two_any _).mono ?_; rintro e w' ⟨rfl, rfl⟩) | (go_at_call 94; refine (tz_any _ ?_).mono ?_))
  · exact hT.on ((Below.refl _ _).alloc (Nat.le_refl _) _)
  · rintro e w' ⟨rfl, rfl⟩
    go_wp2
    have h0 : HxAt (w.alloc (Obj.cells Tryz.zeroCells116 116)) w.heap.size 116 65 [] := ⟨Tryz.zeroCells116.toList, by decide, by simp, by
      have := Bk.new w Tryz.zeroCells116 116
      simpa using this⟩
    have hb0 : Below w.heap.size w (w.alloc (Obj.cells Tryz.zeroCells116 116)) := (Below.refl _ _).alloc (Nat.le_refl _) _
    generalize w.alloc (Obj.cells Tryz.zeroCells116 116) = w0 at h0 hb0 ⊢
    go_loopw [1, 13] (fun v i wr => ∃ (n j : Nat) (W : List Int), v = .int .u64 n ∧ i = .int .i64 j ∧ HxAt wr w.heap.size 116 j W ∧ digL 16 N = digL 16 n ++ W ∧ n ≤ 999999 ∧ Below w.heap.size w wr) (fun v _ _ => (intOf v).toNat)
    case atStart => exact ⟨N, 65, [], rfl, rfl, h0, by simp, hN, hb0⟩
    case round =>
      obtain ⟨n, j, W0, rfl, rfl, hx, hd, hn, hb⟩ := hrel
      have hl := congrArg List.length hd
      rw [List.length_append] at hl
      have hp := digL_pos (b := 16) (by omega) n
      have hj : j + W0.length = 65 := by obtain ⟨pre, h1, h2, h3⟩ := hx; exact h2
      obtain ⟨i, rfl⟩ : ∃ i, j = i + 1 := ⟨j - 1, by omega⟩
      have hi : i < 65 := by omega
      have s1 : IntKind.i64.wrap (((i + 1 : Nat) : Int) - 1) = i := by rw [show (((i + 1 : Nat) : Int) - 1) = i by omega]; exact IntWalk.i64_in _ (by omega)
      obtain ⟨hc, hf⟩ := hx.cell i hi
      obtain ⟨cv, hc⟩ := Option.isSome_iff_exists.1 hc
      by_cases h16 : n < 16
      · obtain ⟨hq, hv⟩ := dig16 n (by omega)
        have p1 : ∀ (k : IntKind) (w : World), (Instr.index 9 (.string ⟨#[48, 49, 50, 51, 52, 53, 54, 55, 56, 57, 97, 98, 99, 100, 101, 102, 103, 104, 105, 106, 107, 108, 109, 110, 111, 112, 113, 114, 115, 116, 117, 118, 119, 120, 121, 122]⟩) (.int k (n : Int))).run Tryz.prog w = .ok (.int .u8 (dg n)) w := fun k w => by
          rw [run_index_string w _ _ k _ Tryz.underlying9, dif_pos (by omega)]
          simp only [Int.toNat_natCast, hv]
        have h2 := hx.put (i := i) (dg n)
        rw [digL_few h16] at hd
        have hD := hide (hd : digL 16 N = dg n :: W0)
        have p2 : ∀ W : World, (Instr.sliceAt 116 (.pointer (some ⟨w.heap.size, 0, none⟩)) (some (.int .i64 i)) none none).run Tryz.prog W = .ok (.slice (some ⟨w.heap.size, i, none⟩) (dg n :: W0).length (65 - i)) W := fun W => by
          have hal : Tryz.prog.arrayLen 116 = 65 := by kernel_rfl
          have hel : Tryz.prog.elem 116 = 5 := by kernel_rfl
          rw [run_sliceAt_array_l (P := Tryz.prog) W 116 ⟨w.heap.size, 0, none⟩ (by rw [hal, hel]; exact Tryz.underlying116) .i64 (i : Int) (by omega) (by rw [hal]; omega), hel, Tryz.sizeOf5]
          have hne : ¬ 65 = i := by omega
          have hne2 : 65 - i = W0.length + 1 := by omega
          have hne3 : ¬ i = 0 := by omega
          simp [Result.andThen, slicedAt, hal, Addr.add, hne, hne2, hne3]
        have q2 : (convert 22 9 (.slice (some ⟨w.heap.size, i, none⟩) (W0.length + 1) (65 - i))).run Tryz.prog (wr.setCell ⟨w.heap.size, i, none⟩ (.int .u8 (dg n))) = .ok (.string (strOfNums (dg n :: W0))) (wr.setCell ⟨w.heap.size, i, none⟩ (.int .u8 (dg n))) :=
          run_str (l := dg n :: W0) (65 - i) 22 5 Tryz.underlying22 Tryz.underlying5 h2.rd 9 Tryz.underlying9
        clear hd h2 hx hv hl
        go_wp2
        go_returns
        exact ⟨by rw [hD.out]; rfl, hb.setCell (Nat.le_refl _) _⟩
      · have hm := Nat.mod_lt n (show 0 < 16 by omega)
        obtain ⟨hq, hv⟩ := dig16 (n % 16) (by omega)
        have p1 : ∀ (k : IntKind) (w : World), (Instr.index 9 (.string ⟨#[48, 49, 50, 51, 52, 53, 54, 55, 56, 57, 97, 98, 99, 100, 101, 102, 103, 104, 105, 106, 107, 108, 109, 110, 111, 112, 113, 114, 115, 116, 117, 118, 119, 120, 121, 122]⟩) (.int k ((n : Int) % 16))).run Tryz.prog w = .ok (.int .u8 (dg (n % 16))) w := fun k w => by
          rw [show ((n : Int) % 16) = ((n % 16 : Nat) : Int) by omega, run_index_string w _ _ k _ Tryz.underlying9, dif_pos (by omega)]
          simp only [Int.toNat_natCast, hv]
        have s2 : bits .and .u64 (n : Int) 15 = (n : Int) % 16 := by
          rw [show ((n : Int) % 16) = ((n % 16 : Nat) : Int) by omega]
          have := bits_and_u64_nat n 15 (by omega) (by omega)
          rw [show ((15 : Nat) : Int) = 15 by rfl] at this
          rw [this, show (15 : Nat) = 2 ^ 4 - 1 by rfl, Nat.and_two_pow_sub_one_eq_mod]
        have h2 := hx.put (i := i) (dg (n % 16))
        have hD := hide (digL_more (b := 16) (by omega) h16)
        clear hv hl
        go_wp2
        go_roundw
        case rel =>
          refine ⟨n / 16, i, dg (n % 16) :: W0, by go_num, rfl, h2, ?_, by omega, hb.setCell (Nat.le_refl _) _⟩
          rw [hd, hD.out]; simp
        case measure => simp [intOf]; omega
end Go.Proofs.YtmdaianbhpppfaaGreatDoor
