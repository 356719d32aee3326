/- Contracts of the exact laws' own helpers on slices of write lists: measured, compared. -/
import Derived.Test.YtdmdljimbmhecaaWidS
import Derived.Test.YtdmdljimbmhecaaWls
import Derived.Test.YtdmdljimbmhecaaGTrS
import Derived.Test.YtdmdljimbmhecaaGFr
namespace Go.Proofs.Ytdmdljimbmhecaa
open Go.RowKit

theorem info_wls : (Try.prog.info? 82).map (fun i => (i.zero, i.size, i.bytes)) = some (some (.agg #[.int .i64 0, .slice none 0 0]), 2, 32) := by kernel_rfl

theorem szWriteList_fit (x : Int) (A : Option Addr) (n c m : Nat) (w : World) (hm : n ≤ m) (h : m ≤ 1048576) :
    Calls Try.prog 78 #[.agg #[.int .i64 x, .slice A n c], .int .i64 m] w fun e w' => e = .returned (.int .i64 ((m - n : Nat) : Int)) ∧ Below w.heap.size w w' := by
  have kb := Bk.new w #[.int .i64 x, .slice A n c] 119
  have c1 := (kb.cell 1).trans (rfl : _ = some (Value.slice A n c))
  have hb := (Below.refl w.heap.size w).alloc (Nat.le_refl _) (Obj.cells #[.int .i64 x, .slice A n c] 119)
  go_enter Try.func78, Try.ntmps78
  go_wp2_with fail
  refine (szWriteIdS_fit A n c m _ hm h).mono ?_
  rintro e w' ⟨rfl, rfl⟩
  go_wp2
  go_ret
  exact ⟨rfl, hb⟩
theorem szWriteList_not (x : Int) (A : Option Addr) (n c m : Nat) (w : World) (hm : m < n) (h : m ≤ 1048576) (hn : n ≤ maxLen) :
    Calls Try.prog 78 #[.agg #[.int .i64 x, .slice A n c], .int .i64 m] w fun e w' => e = .returned (.int .i64 (-1)) ∧ Below w.heap.size w w' := by
  have kb := Bk.new w #[.int .i64 x, .slice A n c] 119
  have c1 := (kb.cell 1).trans (rfl : _ = some (Value.slice A n c))
  have hb := (Below.refl w.heap.size w).alloc (Nat.le_refl _) (Obj.cells #[.int .i64 x, .slice A n c] 119)
  go_enter Try.func78, Try.ntmps78
  go_wp2_with fail
  refine (szWriteIdS_not A n c m _ hm h hn).mono ?_
  rintro e w' ⟨rfl, rfl⟩
  go_wp2
  go_ret
  exact ⟨rfl, hb⟩

set_option maxHeartbeats 400000 in
theorem szWriteListS_fit (os : List Wls) (A : Option Addr) (c m : Nat) (w : World) (hs : os.length + sumO os ≤ m) (hm : m ≤ 1048576) (h : RdW w w.heap.size A os) :
    Calls Try.prog 30 #[.slice A os.length c, .int .i64 m] w fun e w' => e = .returned (.int .i64 ((m - os.length - sumO os : Nat) : Int)) ∧ Below w.heap.size w w' := by
  go_enter Try.func30, Try.ntmps30
  go_wp2
  go_loopw [1, 5] (fun q i wr => ∃ k l : Nat, k ≤ os.length ∧ i = .int .i64 k ∧ q = .int .i64 l ∧ l ≤ 1048576 ∧ l = m - os.length - sumO os + sumO (os.drop k) ∧ Below w.heap.size w wr) (fun _ i _ => os.length - (intOf i).toNat)
  case atStart => exact ⟨0, m - os.length, Nat.zero_le _, rfl, by go_num, by omega, by simp; omega, Below.refl _ _⟩
  case round =>
    obtain ⟨k, l, hk, rfl, rfl, h2, hl, hb⟩ := hrel
    by_cases hlt : k < os.length
    · obtain ⟨b, off, a, c', rfl, hbb, hc0, hc1, hle, hcm, hr⟩ := (h.below hb).get hlt
      have hd := sumO_drop os k hlt
      have h1 : os[k].ids.length ≤ l := by omega
      have HL := hide hl
      have HD := hide hd
      clear hl hd
      go_wp2_with fail
      refine (szWriteList_fit os[k].a a os[k].ids.length c' l _ h1 h2).mono ?_
      rintro e w' ⟨rfl, b1⟩
      have hb2 := hb.trans (b1.mono hb.size)
      go_wp2
      go_roundw
      case rel => exact ⟨k + 1, l - os[k].ids.length, by omega, by go_num, rfl, by omega, by have := HL.out; have := HD.out; omega, hb2⟩
      case measure => simp [intOf]; omega
    · have hd := sumO_end hlt
      go_wp2
      go_ret
      exact ⟨ret_int (by omega), hb⟩

theorem eqWriteList_same (x : Int) (ids : List Wid) (A A' : Option Addr) (c c' : Nat) (w : World) (hm : ids.length ≤ maxLen) (h : RdC w w.heap.size A (wids ids)) (h' : RdC w w.heap.size A' (wids ids)) :
    Calls Try.prog 82 #[.agg #[.int .i64 x, .slice A ids.length c], .agg #[.int .i64 x, .slice A' ids.length c']] w fun e w' => e = .returned (.bool true) ∧ Below w.heap.size w w' := by
  obtain ⟨W, hW⟩ : ∃ W, W = (w.alloc (Obj.cells #[.int .i64 x, .slice A ids.length c] 82)).alloc (Obj.cells #[.int .i64 x, .slice A' ids.length c'] 82) := ⟨_, rfl⟩
  obtain ⟨k1, k2, hz, B0⟩ := two_new _ _ _ _ _ W hW
  have HW := hide hW
  have hR := (h.below B0).lt
  have hR' := (h'.below B0).lt
  have EQ := hide (eqWriteIdS_same (wids ids) A A' c c' W (by rw [wids_length]; exact hm) hR hR')
  rw [wids_length] at EQ
  clear hW
  have a0 := (k1.cell 0).trans (rfl : _ = some (Value.int .i64 x))
  have a1 := (k1.cell 1).trans (rfl : _ = some (Value.slice A ids.length c))
  have b0 := (k2.cell 0).trans (rfl : _ = some (Value.int .i64 x))
  have b1 := (k2.cell 1).trans (rfl : _ = some (Value.slice A' ids.length c'))
  go_enter Try.func82, Try.ntmps82
  go_wp2_with fail
  rw [← HW.out]
  refine EQ.out.mono ?_
  rintro e w1 ⟨rfl, b2⟩
  go_wp2
  go_ret
  exact ⟨rfl, B0.trans (b2.mono B0.size)⟩
set_option maxHeartbeats 400000 in
theorem szWriteListS_not (os : List Wls) (A : Option Addr) (c m : Nat) (w : World) (hs : m < os.length + sumO os) (hm : m ≤ 1048576) (hl : os.length ≤ maxLen) (h : RdW w w.heap.size A os) :
    Calls Try.prog 30 #[.slice A os.length c, .int .i64 m] w fun e w' => e = .returned (.int .i64 (-1)) ∧ Below w.heap.size w w' := by
  unfold maxLen at hl
  by_cases h0 : os.length ≤ m
  · go_enter Try.func30, Try.ntmps30
    go_wp2
    go_loopw [1, 5] (fun q i wr => ∃ k l : Nat, k ≤ os.length ∧ i = .int .i64 k ∧ q = .int .i64 l ∧ l ≤ 1048576 ∧ l < sumO (os.drop k) ∧ Below w.heap.size w wr) (fun _ i _ => os.length - (intOf i).toNat)
    case atStart => exact ⟨0, m - os.length, Nat.zero_le _, rfl, by go_num, by omega, by simp; omega, Below.refl _ _⟩
    case round =>
      obtain ⟨k, l, hk, rfl, rfl, hl, hls, hb⟩ := hrel
      by_cases hlt : k < os.length
      · obtain ⟨b, off, a, c', rfl, hbb, hc0, hc1, hle, hcm, hr⟩ := (h.below hb).get hlt
        have hd := sumO_drop os k hlt
        by_cases h1 : os[k].ids.length ≤ l
        · have HD := hide hd
          clear hd
          go_wp2_with fail
          refine (szWriteList_fit os[k].a a os[k].ids.length c' l _ h1 hl).mono ?_
          rintro e w' ⟨rfl, b1⟩
          have hb2 := hb.trans (b1.mono hb.size)
          go_wp2
          go_roundw
          case rel => exact ⟨k + 1, l - os[k].ids.length, by omega, by go_num, rfl, by omega, by have := HD.out; omega, hb2⟩
          case measure => simp [intOf]; omega
        · clear hd
          go_wp2_with fail
          refine (szWriteList_not os[k].a a os[k].ids.length c' l _ (by omega) hl (by omega)).mono ?_
          rintro e w' ⟨rfl, b1⟩
          have hb2 := hb.trans (b1.mono hb.size)
          go_wp2
          go_ret
          exact ⟨rfl, hb2⟩
      · have hd := sumO_end hlt
        exact absurd hls (by omega)
  · go_enter Try.func30, Try.ntmps30
    go_wp2
    go_ret
    exact ⟨rfl, Below.refl _ _⟩

set_option maxRecDepth 100000 in
set_option maxHeartbeats 800000 in
theorem eqWriteListS_same (os : List Wls) (A A' : Option Addr) (c c' : Nat) (w : World) (hm : os.length ≤ maxLen) (h : RdW w w.heap.size A os) (h' : RdW w w.heap.size A' os) :
    Calls Try.prog 34 #[.slice A os.length c, .slice A' os.length c'] w fun e w' => e = .returned (.bool true) ∧ Below w.heap.size w w' := by
  unfold maxLen at hm
  go_enter Try.func34, Try.ntmps34
  go_wp2
  go_loopw [5] (fun i wr => ∃ k : Nat, k ≤ os.length ∧ i = .int .i64 k ∧ Below w.heap.size w wr) (fun i _ => os.length - (intOf i).toNat)
  case atStart => exact ⟨0, Nat.zero_le _, rfl, Below.refl _ _⟩
  case round =>
    obtain ⟨k, hk, rfl, hb⟩ := hrel
    by_cases hlt : k < os.length
    · obtain ⟨b, off, a, d, rfl, hbb, hc0, hc1, hle, hcm, hr⟩ := (h.below hb).get hlt
      obtain ⟨b', off', a', d', rfl, hbb', hd0, hd1, hle', hdm, hr'⟩ := (h'.below hb).get hlt
      go_wp2
      go_still_tail 8, (by kernel_rfl)
      change wpList _ _ _ _ _ wr.drew
      generalize hw2 : wr.drew = w2
      have hb2 : Below w.heap.size w w2 := by rw [← hw2]; exact hb.drew
      have hr2 : RdC w2 w.heap.size a (wids os[k].ids) := by rw [← hw2]; exact hr
      have hr2' : RdC w2 w.heap.size a' (wids os[k].ids) := by rw [← hw2]; exact hr'
      clear hw2
      go_wp2_with fail
      refine (eqWriteList_same os[k].a os[k].ids _ _ _ _ _ (by unfold maxLen at *; omega) hr2.lt hr2'.lt).mono ?_
      rintro e w3 ⟨rfl, hb3⟩
      have hb4 := hb2.trans (hb3.mono hb2.size)
      go_wp2
      go_roundw
      case rel => exact ⟨k + 1, by omega, by go_num, hb4⟩
      case measure => simp [intOf]; omega
    · go_wp2
      go_ret
      exact ⟨rfl, hb⟩
end Go.Proofs.Ytdmdljimbmhecaa
