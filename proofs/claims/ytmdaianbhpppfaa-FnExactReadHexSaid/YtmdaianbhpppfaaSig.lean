/- Where a rune stands among the signs of the digits: strings.IndexRune at that one string. The library's own text is walked. -/
import Derived.Test.YtmdaianbhpppfaaTx2
import Derived.Lib.Bytealg
import Derived.Lib.Walk
import Derived.Lib.OthersKept
import Derived.Laws.RangeAny
namespace Go.Proofs.Ytmdaianbhpppfaa
open Go.RowKit

/-- The signs of the digits. -/
abbrev sgS : ByteArray := { data := #[48, 49, 50, 51, 52, 53, 54, 55, 56, 57, 97, 98, 99, 100, 101, 102] }
set_option maxHeartbeats 1000000 in
theorem slIndexByte_any (s : ByteArray) (c : Int) (w : World) :
    Calls Try.prog 23 #[.string s, .int .u8 c] w fun e w' => e = .returned (.int .i64 (Lib.indexByte s.data.toList c.toNat.toUInt8)) ∧ w = w' := by
  go_enter Try.func23, Try.ntmps23
  go_wp2
  rw [run_callFunc_extern Try.func24 (by kernel_rfl) (by kernel_rfl) (by kernel_rfl) (e := Extern.BytealgIndexByte.indexByte) (by kernel_rfl), Lib.run_indexByteString]
  simp only [Result.andThen]
  rw [Oper.upon_value]
  go_wp2
  go_ret
  exact ⟨rfl, rfl⟩
theorem strIndexByte_any (s : ByteArray) (c : Int) (w : World) :
    Calls Try.prog 19 #[.string s, .int .u8 c] w fun e w' => e = .returned (.int .i64 (Lib.indexByte s.data.toList c.toNat.toUInt8)) ∧ w = w' := by
  go_enter Try.func19, Try.ntmps19
  go_wp2_with (go_at_call 23; refine (slIndexByte_any _ _ _).mono ?_; rintro e w' ⟨rfl, rfl⟩)
  go_ret
  exact ⟨rfl, rfl⟩
theorem validRune_any (r : Int) (w : World) :
    Calls Try.prog 20 #[.int .i32 r] w fun e w' => e = .returned (.bool (Utf8.valid r)) ∧ w = w' := by
  unfold Utf8.valid
  by_cases h0 : 0 ≤ r ∧ r < 55296
  · obtain ⟨a, b⟩ := h0
    go_enter Try.func20, Try.ntmps20
    go_wp2
    go_ret
    exact ⟨by simp; omega, rfl⟩
  · by_cases h1 : 57343 < r ∧ r ≤ 1114111
    · obtain ⟨a, b⟩ := h1
      have c : ¬ r < 55296 := by omega
      have d : 0 ≤ r := by omega
      go_enter Try.func20, Try.ntmps20
      go_wp2
      go_ret
      exact ⟨by simp; omega, rfl⟩
    · go_enter Try.func20, Try.ntmps20
      by_cases a : 0 ≤ r
      · have b : ¬ r < 55296 := by omega
        by_cases c : 57343 < r
        · have d : ¬ r ≤ 1114111 := by omega
          go_wp2
          go_ret
          exact ⟨by simp; omega, rfl⟩
        · go_wp2
          go_ret
          exact ⟨by simp; omega, rfl⟩
      · have c : ¬ 57343 < r := by omega
        go_wp2
        go_ret
        exact ⟨by simp; omega, rfl⟩
end Go.Proofs.Ytmdaianbhpppfaa
