/- Contracts of ReadVar and of what it calls, in the program and in its model. The contract of the model's reading of a number. -/
import Derived.Test.YtldepledinolmaaGreatDoorGEv
import Derived.Test.YtldepledinolmaaGreatDoorGBase
import Derived.Test.YtldepledinolmaaGreatDoorPut
import Derived.Test.YtldepledinolmaaGreatDoorSame
import Derived.Deep.RegionWith
import Derived.IntWalk
namespace Go.Proofs.YtldepledinolmaaGreatDoor
open Go.RowKit

set_option maxHeartbeats 400000 in
theorem implRead_any (l : List Int) (A : Option Addr) (c : Nat) (w : World) (hm : l.length ≤ 1048576) (hcap : l.length ≤ c) (hR : Rd .u8 w w.heap.size A l) (b8 : B8 l) :
    Calls Tryz.prog 81 #[.slice A l.length c] w fun e w' => e = .returned (.agg #[.int .i64 (rdC l), .int .i64 (rdV l), .int .i64 (rdZ l)]) ∧ Below w.heap.size w w' := by
  by_cases h9 : l.length ≤ 9
  · go_enter Tryz.func81, Tryz.ntmps81
    go_wp2
    go_loop [3, 12] (fun v i => ∃ j : Nat, j ≤ l.length ∧ i = .int .i64 j ∧ v = .int .i64 (valL (l.take j)) ∧ Cont l j) (fun _ i => l.length - (intOf i).toNat)
    case atStart => exact ⟨0, by omega, rfl, rfl, Cont.zero l⟩
    case round =>
      obtain ⟨j, hj, rfl, rfl, hcon⟩ := hrel
      by_cases hlt : j < l.length
      · obtain ⟨b, off, rfl, hbb, hc⟩ := hR.get hlt
        obtain ⟨hb0, hb1⟩ := b8.get j hlt
        go_wp2
        · go_round
          case rel => exact ⟨j + 1, by omega, by go_num, by rw [or_take b8 j (by omega) (by omega)], hcon.step (by omega) (by assumption)⟩
          case measure => simp [intOf]; omega
        · have R := rd_zero (l := l) (by omega) hcon (by assumption) (by assumption)
          go_returns
          rw [R.1, R.2.1, R.2.2]
          exact ⟨rfl, by go_grown⟩
        · have R := rd_at (l := l) (by omega) hcon (by assumption) (by omega) (.inl (by omega))
          go_returns
          rw [R.1, R.2.1, R.2.2, or_take0 b8 j (by omega) (by omega) (by assumption)]
          exact ⟨rfl, by go_grown⟩
        · have R := rd_at (l := l) (by omega) hcon (by assumption) (by omega) (.inr (by assumption))
          go_returns
          rw [R.1, R.2.1, R.2.2, or_take b8 j (by omega) (by omega)]
          exact ⟨rfl, by go_grown⟩
      · go_wp2
        go_returns
        have R := rd_end (by omega) hcon (.inl (by omega))
        rw [R.1, R.2.1, R.2.2]
        exact ⟨rfl, by go_grown⟩
  · go_enter Tryz.func81, Tryz.ntmps81
    go_wp2
    go_loop [3, 12] (fun v i => ∃ j : Nat, j ≤ 9 ∧ i = .int .i64 j ∧ v = .int .i64 (valL (l.take j)) ∧ Cont l j) (fun _ i => 9 - (intOf i).toNat)
    case atStart => exact ⟨0, by omega, rfl, rfl, Cont.zero l⟩
    case round =>
      obtain ⟨j, hj, rfl, rfl, hcon⟩ := hrel
      by_cases hlt : j < 9
      · obtain ⟨b, off, rfl, hbb, hc⟩ := hR.get (i := j) (by omega)
        obtain ⟨hb0, hb1⟩ := b8.get j (by omega)
        go_wp2
        · go_round
          case rel => exact ⟨j + 1, by omega, by go_num, by rw [or_take b8 j (by omega) (by omega)], hcon.step (by omega) (by assumption)⟩
          case measure => simp [intOf]; omega
        · have R := rd_zero (l := l) (by omega) hcon (by assumption) (by assumption)
          go_returns
          rw [R.1, R.2.1, R.2.2]
          exact ⟨rfl, by go_grown⟩
        · have R := rd_at (l := l) (by omega) hcon (by assumption) (by omega) (.inl (by omega))
          go_returns
          rw [R.1, R.2.1, R.2.2, or_take0 b8 j (by omega) (by omega) (by assumption)]
          exact ⟨rfl, by go_grown⟩
        · have R := rd_at (l := l) (by omega) hcon (by assumption) (by omega) (.inr (by assumption))
          go_returns
          rw [R.1, R.2.1, R.2.2, or_take b8 j (by omega) (by omega)]
          exact ⟨rfl, by go_grown⟩
      · go_wp2
        go_returns
        have R := rd_end (by omega) hcon (.inr (by omega))
        rw [R.1, R.2.1, R.2.2]
        exact ⟨rfl, by go_grown⟩
end Go.Proofs.YtldepledinolmaaGreatDoor
namespace Go.Proofs.YtldepledinolmaaGreatDoor
open Go.RowKit

set_option maxHeartbeats 800000 in
theorem l1Read_any (l : List Int) (A : Option Addr) (c : Nat) (w : World) (hm : l.length ≤ 1048576) (hcap : l.length ≤ c) (hR : Rd .u8 w w.heap.size A l) (b8 : B8 l) :
    Calls Tryz.prog 87 #[.slice A l.length c] w fun e w' => e = .returned (.tuple #[.int .i64 (rdV l), .int .i64 (rdZ l)]) ∧ Below w.heap.size w w' := by
  go_enter Tryz.func87, Tryz.ntmps87
  go_wp2
  go_loop [4] (fun i => ∃ j : Nat, j ≤ l.length ∧ j ≤ 9 ∧ i = .int .i64 j ∧ Cont l j) (fun i => l.length - (intOf i).toNat)
  case atStart => exact ⟨0, by omega, by omega, rfl, Cont.zero l⟩
  case round =>
    obtain ⟨j, hj, hj9, rfl, hcon⟩ := hrel
    by_cases hlt : j < l.length
    · by_cases h9 : j < 9
      · obtain ⟨b, off, rfl, hbb, hc⟩ := hR.get hlt
        obtain ⟨hb0, hb1⟩ := b8.get j hlt
        by_cases hgo : 128 ≤ l[j]
        · go_wp2
          go_round
          case rel => exact ⟨j + 1, by omega, by omega, by go_num, hcon.step hlt hgo⟩
          case measure => simp [intOf]; omega
        · go_wp2
          have b9 : decide ((9 : Int) ≤ (j : Int)) = false := by simp; omega
          rw [b9]
          go_loop [5, 6] (fun v i => ∃ q : Nat, q ≤ j + 1 ∧ i = .int .i64 ((q : Int) - 1) ∧ v = .int .i64 (segV l j q)) (fun _ i => (intOf i + 1).toNat)
          case atStart => exact ⟨j + 1, by omega, by go_num, by rw [segV_end]⟩
          case round =>
            obtain ⟨q, hq, rfl, rfl⟩ := hrel
            by_cases h0 : q = 0
            · subst h0
              go_wp2
              have hV0 := segV_nonneg b8 j 0
              have hV1 := segV_max b8 j (by omega) (by omega)
              have E0 := hide (fun (W : World) (hB : Below w.heap.size w W) => run_str_take (P := Tryz.prog) c 22 5 Tryz.underlying22 Tryz.underlying5 (hR.below hB) (j + 1) (by omega) 9 Tryz.underlying9)
              have p0 := E0.out w.drew (Below.refl _ _).drew
              by_cases hz : 0 < j ∧ l[j] = 0
              · have t1 : ((strOfNums (putL (segV l j 0))).toList == (strOfNums (l.take (j + 1))).toList) = false := by
                  rw [sameB_str (putL_B8 _ _ hV0 (Nat.le_refl _)) (b8.take _), segV_all]
                  exact beq_eq_false_iff_ne.2 (rd_put_not hlt b8 hcon hz.1 hz.2)
                have R := rd_zero hlt hcon hz.2 hz.1
                have HR := hide R
                clear R hz
                have s0 : (0 : Int) ≤ (j : Int) + 1 := by omega
                have s1 : (j : Int) + 1 ≤ (c : Int) := by omega
                have s2 : IntKind.i64.wrap ((j : Int) + 1) = (j : Int) + 1 := IntWalk.i64_in _ (by omega)
                have s3 : ((j : Int) + 1).toNat = j + 1 := by omega
                go_region_with (go_at_call 97; refine (l1Put_any (segV l j 0) _ hV0 hV1).mono ?_; rintro e w1 ⟨A2, c2, rfl, ho2, hb2⟩; have hB1 : Below w.heap.size w w1 := (Below.refl _ _).drew.trans hb2; have q0 := E0.out w1 hB1; have q1 := run_str (P := Tryz.prog) c2 22 5 Tryz.underlying22 Tryz.underlying5 (Rd.of_own ho2) 9 Tryz.underlying9)
                all_goals
                  clear p0 q0 q1 s0 s1 s2 s3
                  go_wp2
                  go_ret2
                  rw [HR.out.2.1, HR.out.2.2]
                  exact ⟨rfl, hB1⟩
              · have t1 : ((strOfNums (putL (segV l j 0))).toList == (strOfNums (l.take (j + 1))).toList) = true := by
                  rw [sameB_str (putL_B8 _ _ hV0 (Nat.le_refl _)) (b8.take _), segV_all]
                  exact beq_iff_eq.2 (rd_put hlt b8 hcon (by omega) (by omega))
                have R := rd_at hlt hcon (by omega) h9 (by omega)
                rw [← segV_all] at R
                have HR := hide R
                clear R hz
                have s0 : (0 : Int) ≤ (j : Int) + 1 := by omega
                have s1 : (j : Int) + 1 ≤ (c : Int) := by omega
                have s2 : IntKind.i64.wrap ((j : Int) + 1) = (j : Int) + 1 := IntWalk.i64_in _ (by omega)
                have s3 : ((j : Int) + 1).toNat = j + 1 := by omega
                go_region_with (go_at_call 97; refine (l1Put_any (segV l j 0) _ hV0 hV1).mono ?_; rintro e w1 ⟨A2, c2, rfl, ho2, hb2⟩; have hB1 : Below w.heap.size w w1 := (Below.refl _ _).drew.trans hb2; have q0 := E0.out w1 hB1; have q1 := run_str (P := Tryz.prog) c2 22 5 Tryz.underlying22 Tryz.underlying5 (Rd.of_own ho2) 9 Tryz.underlying9)
                all_goals
                  clear p0 q0 q1 s0 s1 s2 s3
                  go_wp2
                  go_ret2
                  rw [HR.out.2.1, HR.out.2.2]
                  exact ⟨rfl, hB1⟩
            · obtain ⟨r, rfl⟩ : ∃ r, q = r + 1 := ⟨q - 1, by omega⟩
              obtain ⟨b', off', hA', hbb', hc'⟩ := hR.get (i := r) (by omega)
              simp only [Option.some.injEq, Addr.mk.injEq, and_true] at hA'
              obtain ⟨rfl, rfl⟩ := hA'
              obtain ⟨hr0, hr1⟩ := b8.get r (by omega)
              have hv0 := segV_nonneg b8 j (r + 1)
              have hv1 := segV_lt l j (r + 1) (by omega) (by omega)
              go_wp2
              go_round
              case rel => exact ⟨r, by omega, by go_num, by rw [segV_step l j r (by omega) (by omega)]⟩
              case measure => simp [intOf]
      · go_wp2
        go_ret2
        have R := rd_end hj hcon (.inr (by omega))
        rw [R.2.1, R.2.2]
        exact ⟨rfl, Below.refl _ _⟩
    · go_wp2
      go_ret2
      have R := rd_end hj hcon (.inl (by omega))
      rw [R.2.1, R.2.2]
      exact ⟨rfl, Below.refl _ _⟩
end Go.Proofs.YtldepledinolmaaGreatDoor
