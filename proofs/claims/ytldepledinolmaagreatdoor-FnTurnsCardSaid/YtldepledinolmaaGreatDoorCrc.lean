/- Contracts of the sum, in the program and in its model. -/
import Derived.Test.YtldepledinolmaaGreatDoorGEv
import Derived.Test.YtldepledinolmaaGreatDoorGCrc
namespace Go.Proofs.YtldepledinolmaaGreatDoor
open Go.RowKit

set_option maxHeartbeats 400000 in
theorem l1Crc_any (l : List Int) (A : Option Addr) (c : Nat) (w : World) (hm : l.length ≤ 4000) (hR : Rd .u8 w w.heap.size A l) (b8 : B8 l) :
    Calls Tryz.prog 65 #[.slice A l.length c] w fun e w' => e = .returned (.int .i64 ((crcS 4294967295 l ^^^ 4294967295 : Nat) : Int)) ∧ w = w' := by
  go_enter Tryz.func65, Tryz.ntmps65
  go_wp2
  go_loop [3, 4] (fun v i => ∃ j : Nat, j ≤ l.length ∧ i = .int .i64 j ∧ v = .int .i64 ((crcS 4294967295 (l.take j) : Nat) : Int)) (fun _ i => l.length - (intOf i).toNat)
  case atStart => exact ⟨0, by omega, rfl, rfl⟩
  case round =>
    obtain ⟨j, hj, rfl, rfl⟩ := hrel
    obtain ⟨s, hs⟩ : ∃ s, s = crcS 4294967295 (l.take j) := ⟨_, rfl⟩
    have hs32 : s < 4294967296 := by rw [hs]; exact crcS_lt _ _ (b8.take _) (by omega)
    rw [← hs]
    have HS := hide hs
    clear hs
    by_cases hlt : j < l.length
    · obtain ⟨b, off, rfl, hbb, hc⟩ := hR.get hlt
      obtain ⟨hb0, hb1⟩ := b8.get j hlt
      obtain ⟨y, hy⟩ : ∃ y, y = s ^^^ (l[j]).toNat := ⟨_, rfl⟩
      have hy32 : y < 4294967296 := by rw [hy]; exact byte_xor_lt hs32 hb1
      have hx : bits .xor .i64 (s : Int) l[j] = (y : Int) := by
        rw [hy, show l[j] = ((l[j].toNat : Nat) : Int) by omega]
        exact i64_xor_nat _ _ hs32 (by omega)
      have HY := hide hy
      clear hy
      go_wp2
      go_loop [3, 5] (fun v i => ∃ k : Nat, k ≤ 8 ∧ i = .int .i64 k ∧ v = .int .i64 ((bstI k y : Nat) : Int)) (fun _ i => 8 - (intOf i).toNat)
      case atStart => exact ⟨0, by omega, rfl, rfl⟩
      case round =>
        obtain ⟨k, hk, rfl, rfl⟩ := hrel
        obtain ⟨z, hz⟩ : ∃ z, z = bstI k y := ⟨_, rfl⟩
        have hz32 : z < 4294967296 := by rw [hz]; exact bstI_lt hy32 k
        rw [← hz]
        have HZ := hide hz
        clear hz
        by_cases h8 : k < 8
        · by_cases ho : z % 2 = 1
          · have hx2 := i64_bst z hz32 ho
            have ht : ((z : Int) % 2 == 1) = true := by simp; omega
            clear ho
            go_wp2
            go_round
            case rel => exact ⟨k + 1, by omega, by go_num, by rw [HZ.out]; rfl⟩
            case measure => simp [intOf]; omega
          · have hx2 := bst_of_even z ho
            have ht : ((z : Int) % 2 == 1) = false := by simp; omega
            clear ho
            go_wp2
            go_round
            case rel => exact ⟨k + 1, by omega, by go_num, by rw [HZ.out]; rfl⟩
            case measure => simp [intOf]; omega
        · obtain rfl : k = 8 := by omega
          go_wp2
          go_round
          case rel => exact ⟨j + 1, by omega, by go_num, by rw [HZ.out, HY.out, HS.out, crcS_take l _ j hlt]; rfl⟩
          case measure => simp [intOf]; omega
    · have hx : bits .xor .i64 (s : Int) 4294967295 = ((s ^^^ 4294967295 : Nat) : Int) := i64_xor_nat _ 4294967295 hs32 (by decide)
      go_wp2
      go_ret
      obtain rfl : j = l.length := by omega
      rw [HS.out, List.take_length]
      exact ⟨rfl, rfl⟩

/-- The program's table of steps lies in memory as it was laid. -/
def Tab (w : World) : Prop := ∀ i, i < 16 → w.cell? ⟨1, i, none⟩ = some (.int .u32 (tab i : Int))
theorem Tab.lt {w : World} (h : Tab w) : 1 < w.heap.size := block_lt_of_cell (h 0 (by omega))
theorem Tab.below {w w' : World} (h : Tab w) (hb : Below w.heap.size w w') : Tab w' := fun i hi => (hb.cell (p := ⟨1, i, none⟩) h.lt).trans (h i hi)
theorem Tab.alloc {w : World} (h : Tab w) (o : Obj) : Tab (w.alloc o) := h.below ((Below.refl _ _).alloc (Nat.le_refl _) o)

set_option maxHeartbeats 400000 in
theorem implCrc_any (l : List Int) (A : Option Addr) (c : Nat) (w : World) (hm : l.length ≤ 1048576) (hR : Rd .u8 w w.heap.size A l) (b8 : B8 l) (hT : Tab w) :
    Calls Tryz.prog 76 #[.slice A l.length c] w fun e w' => e = .returned (.agg #[.int .i64 (crcC l), .int .i64 (crcV l)]) ∧ Below w.heap.size w w' := by
  by_cases h4 : l.length ≤ 4000
  · rw [(crc_in h4).1, (crc_in h4).2]
    have HT := hide hT
    have hT0 := hT.lt
    clear hT
    go_enter Tryz.func76, Tryz.ntmps76
    go_wp2
    go_loop [3, 12] (fun v i => ∃ j : Nat, j ≤ l.length ∧ i = .int .i64 j ∧ v = .int .u32 ((crcS 4294967295 (l.take j) : Nat) : Int)) (fun _ i => l.length - (intOf i).toNat)
    case atStart => exact ⟨0, by omega, rfl, rfl⟩
    case round =>
      obtain ⟨j, hj, rfl, rfl⟩ := hrel
      obtain ⟨s, hs⟩ : ∃ s, s = crcS 4294967295 (l.take j) := ⟨_, rfl⟩
      have hs32 : s < 4294967296 := by rw [hs]; exact crcS_lt _ _ (b8.take _) (by omega)
      rw [← hs]
      have HS := hide hs
      clear hs
      by_cases hlt : j < l.length
      · obtain ⟨b, off, rfl, hbb, hc⟩ := hR.get hlt
        obtain ⟨hb0, hb1⟩ := b8.get j hlt
        obtain ⟨y, hy⟩ : ∃ y, y = s ^^^ (l[j]).toNat := ⟨_, rfl⟩
        have hy32 : y < 4294967296 := by rw [hy]; exact byte_xor_lt hs32 hb1
        have hx : bits .xor .u32 (s : Int) l[j] = (y : Int) := by
          rw [hy, show l[j] = ((l[j].toNat : Nat) : Int) by omega]
          exact u32_xor_nat _ _ hs32 (by omega)
        have HY := hide hy
        clear hy
        have t1 := HT.out (y % 16) (by omega)
        obtain ⟨z, hz⟩ : ∃ z, z = nib y := ⟨_, rfl⟩
        have hz32 : z < 4294967296 := by rw [hz]; exact nib_lt hy32
        have hx2 := u32_nib y hy32
        rw [← hz] at hx2
        have t2 := HT.out (z % 16) (by omega)
        obtain ⟨v, hv⟩ : ∃ v, v = nib z := ⟨_, rfl⟩
        have hx3 := u32_nib z hz32
        rw [← hv] at hx3
        have HZ := hide hz
        have HV := hide hv
        clear hz hv
        go_wp2
        go_round
        case rel => exact ⟨j + 1, by omega, by go_num, by rw [HV.out, HZ.out, HY.out, HS.out, crcS_take l _ j hlt, bst8_nib]⟩
        case measure => simp [intOf]; omega
      · have hx : bits .xor .u32 (s : Int) 4294967295 = ((s ^^^ 4294967295 : Nat) : Int) := u32_xor_nat _ 4294967295 hs32 (by decide)
        have hxl : ((s ^^^ 4294967295 : Nat) : Int) < 4294967296 := by
          have : s ^^^ 4294967295 < 2 ^ 32 := Nat.xor_lt_two_pow hs32 (by decide)
          omega
        go_wp2
        go_returns
        obtain rfl : j = l.length := by omega
        rw [HS.out, List.take_length]
        exact ⟨rfl, by go_grown⟩
  · rw [(crc_out h4).1, (crc_out h4).2]
    clear hT
    go_enter Tryz.func76, Tryz.ntmps76
    go_wp2
    go_returns
    exact ⟨rfl, by go_grown⟩

end Go.Proofs.YtldepledinolmaaGreatDoor
