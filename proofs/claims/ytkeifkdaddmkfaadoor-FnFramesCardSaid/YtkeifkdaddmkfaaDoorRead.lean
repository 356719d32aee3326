/- Contracts of ReadVar and of what it calls, in the program and in its model. -/
import Derived.Test.YtkeifkdaddmkfaaDoorBytes
import Derived.Test.YtkeifkdaddmkfaaDoorReadMath
import Derived.Test.YtkeifkdaddmkfaaDoorPut
namespace Go.Proofs.YtkeifkdaddmkfaaDoor
open Go.RowKit

set_option maxHeartbeats 400000 in
theorem implRead_any (l : List Int) (A : Option Addr) (c : Nat) (w : World) (hm : l.length ≤ 1048576) (hcap : l.length ≤ c) (hR : Rd .u8 w w.heap.size A l) (b8 : B8 l) :
    Calls Tryd.prog 84 #[.slice A l.length c] w fun e w' => e = .returned (.agg #[.int .i64 (rdC l), .int .i64 (rdV l), .int .i64 (rdZ l)]) ∧ Below w.heap.size w w' := by
  by_cases h9 : l.length ≤ 9
  · go_enter Tryd.func84, Tryd.ntmps84
    go_wp2
    go_loop [3, 12] (fun v i => ∃ j : Nat, j ≤ l.length ∧ i = .int .i64 j ∧ v = .int .i64 (valL (l.take j)) ∧ Cont l j) (fun _ i => l.length - (intOf i).toNat)
    case atStart => exact ⟨0, by omega, rfl, rfl, Cont.zero l⟩
    case round =>
      obtain ⟨j, hj, rfl, rfl, hcon⟩ := hrel
      by_cases hlt : j < l.length
      · obtain ⟨b, off, rfl, hbb, hc⟩ := hR.get hlt
        obtain ⟨hb0, hb1⟩ := b8.get j hlt
        go_wp2
        · go_round
          case rel => exact ⟨j + 1, by omega, by go_num, by rw [or_take b8 j (by omega) (by omega)], hcon.step (by omega) (by assumption)⟩
          case measure => simp [intOf]; omega
        · have R := rd_zero (l := l) (by omega) hcon (by assumption) (by assumption)
          go_returns
          rw [R.1, R.2.1, R.2.2]
          exact ⟨rfl, by go_grown⟩
        · have R := rd_at (l := l) (by omega) hcon (by assumption) (by omega) (.inl (by omega))
          go_returns
          rw [R.1, R.2.1, R.2.2, or_take0 b8 j (by omega) (by omega) (by assumption)]
          exact ⟨rfl, by go_grown⟩
        · have R := rd_at (l := l) (by omega) hcon (by assumption) (by omega) (.inr (by assumption))
          go_returns
          rw [R.1, R.2.1, R.2.2, or_take b8 j (by omega) (by omega)]
          exact ⟨rfl, by go_grown⟩
      · go_wp2
        go_returns
        have R := rd_end (by omega) hcon (.inl (by omega))
        rw [R.1, R.2.1, R.2.2]
        exact ⟨rfl, by go_grown⟩
  · go_enter Tryd.func84, Tryd.ntmps84
    go_wp2
    go_loop [3, 12] (fun v i => ∃ j : Nat, j ≤ 9 ∧ i = .int .i64 j ∧ v = .int .i64 (valL (l.take j)) ∧ Cont l j) (fun _ i => 9 - (intOf i).toNat)
    case atStart => exact ⟨0, by omega, rfl, rfl, Cont.zero l⟩
    case round =>
      obtain ⟨j, hj, rfl, rfl, hcon⟩ := hrel
      by_cases hlt : j < 9
      · obtain ⟨b, off, rfl, hbb, hc⟩ := hR.get (i := j) (by omega)
        obtain ⟨hb0, hb1⟩ := b8.get j (by omega)
        go_wp2
        · go_round
          case rel => exact ⟨j + 1, by omega, by go_num, by rw [or_take b8 j (by omega) (by omega)], hcon.step (by omega) (by assumption)⟩
          case measure => simp [intOf]; omega
        · have R := rd_zero (l := l) (by omega) hcon (by assumption) (by assumption)
          go_returns
          rw [R.1, R.2.1, R.2.2]
          exact ⟨rfl, by go_grown⟩
        · have R := rd_at (l := l) (by omega) hcon (by assumption) (by omega) (.inl (by omega))
          go_returns
          rw [R.1, R.2.1, R.2.2, or_take0 b8 j (by omega) (by omega) (by assumption)]
          exact ⟨rfl, by go_grown⟩
        · have R := rd_at (l := l) (by omega) hcon (by assumption) (by omega) (.inr (by assumption))
          go_returns
          rw [R.1, R.2.1, R.2.2, or_take b8 j (by omega) (by omega)]
          exact ⟨rfl, by go_grown⟩
      · go_wp2
        go_returns
        have R := rd_end (by omega) hcon (.inr (by omega))
        rw [R.1, R.2.1, R.2.2]
        exact ⟨rfl, by go_grown⟩
end Go.Proofs.YtkeifkdaddmkfaaDoor
