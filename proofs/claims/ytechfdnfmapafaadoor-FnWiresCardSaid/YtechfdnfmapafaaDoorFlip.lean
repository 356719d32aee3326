/- Plain mathematics: a bit that is turned turns the sum. No program is named here. -/
import Derived.Test.YtechfdnfmapafaaDoorCrcMath
namespace Go.Proofs.YtechfdnfmapafaaDoor

theorem xor_ne (a c : Nat) (hc : c ≠ 0) : a ^^^ c ≠ a := by
  intro h
  apply hc
  have h2 : c ^^^ a = 0 ^^^ a := by rw [Nat.xor_comm, h, Nat.zero_xor]
  exact xor_cancel h2
theorem flip_one (x : Int) (h0 : 0 ≤ x) (h1 : x < 256) (m : Int) (m0 : 0 < m) (m1 : m < 256) : 0 ≤ bits .xor .u8 x m ∧ bits .xor .u8 x m < 256 ∧ bits .xor .u8 x m ≠ x := by
  rw [u8_xor x m h0 h1 (by omega) m1]
  have a : x.toNat ^^^ m.toNat < 2 ^ 8 := Nat.xor_lt_two_pow (by omega) (by omega)
  have b := xor_ne x.toNat m.toNat (by omega)
  omega
theorem flip_bit (x : Int) (h0 : 0 ≤ x) (h1 : x < 256) (i : Nat) (hi : i < 8) :
    0 ≤ bits .xor .u8 x (IntKind.u8.wrap (2 ^ min (IntKind.u64.wrap (i : Int)).toNat 8)) ∧ bits .xor .u8 x (IntKind.u8.wrap (2 ^ min (IntKind.u64.wrap (i : Int)).toNat 8)) < 256 ∧
      bits .xor .u8 x (IntKind.u8.wrap (2 ^ min (IntKind.u64.wrap (i : Int)).toNat 8)) ≠ x := by
  have hc : i = 0 ∨ i = 1 ∨ i = 2 ∨ i = 3 ∨ i = 4 ∨ i = 5 ∨ i = 6 ∨ i = 7 := by omega
  have hm : 0 < IntKind.u8.wrap (2 ^ min (IntKind.u64.wrap (i : Int)).toNat 8) ∧ IntKind.u8.wrap (2 ^ min (IntKind.u64.wrap (i : Int)).toNat 8) < 256 := by
    rcases hc with rfl | rfl | rfl | rfl | rfl | rfl | rfl | rfl <;> decide
  exact flip_one x h0 h1 _ hm.1 hm.2
theorem crcS_ne (ds : List Int) (i : Nat) (hi : i < ds.length) (y : Int) (b : B8 ds) (y0 : 0 ≤ y) (y1 : y < 256) (hy : y ≠ ds[i]) (s : Nat) (hs : s < 4294967296) : crcS s (ds.set i y) ≠ crcS s ds := by
  intro h
  have e1 : ds.set i y = ds.take i ++ y :: ds.drop (i + 1) := List.set_eq_take_append_cons_drop.trans (if_pos hi)
  have e2 : ds = ds.take i ++ ds[i] :: ds.drop (i + 1) := by rw [← List.drop_eq_getElem_cons hi, List.take_append_drop]
  have h2 : crcS (crcS s (ds.take i)) (y :: ds.drop (i + 1)) = crcS (crcS s (ds.take i)) (ds[i] :: ds.drop (i + 1)) := by
    rw [← crcS_append, ← crcS_append, ← e1, ← e2]
    exact h
  have t := crcS_lt (ds.take i) s (b.take i) hs
  obtain ⟨x0, x1⟩ := b.get i hi
  simp only [crcS] at h2
  have h3 := crcS_inj (ds.drop (i + 1)) _ _ (b.drop _) (bst8_lt (byte_xor_lt t y1)) (bst8_lt (byte_xor_lt t x1)) h2
  have h4 := bst8_inj (byte_xor_lt t y1) (byte_xor_lt t x1) h3
  rw [Nat.xor_comm, Nat.xor_comm (crcS s (ds.take i))] at h4
  have h5 := xor_cancel h4
  omega
/-- A byte that is another one makes another sum. -/
theorem crc_ne (ds : List Int) (i : Nat) (hi : i < ds.length) (y : Int) (b : B8 ds) (y0 : 0 ≤ y) (y1 : y < 256) (hy : y ≠ ds[i]) (hc : crcC ds = 0) : crcC (ds.set i y) = 0 ∧ crcV (ds.set i y) ≠ crcV ds := by
  have hl : ds.length ≤ 4000 := by
    rcases Nat.lt_or_ge 4000 ds.length with h | h
    · rw [(crc_out (by omega)).1] at hc
      omega
    · exact h
  have hl2 : (ds.set i y).length ≤ 4000 := by simpa using hl
  refine ⟨(crc_in hl2).1, ?_⟩
  rw [(crc_in hl2).2, (crc_in hl).2]
  intro h
  have h2 := xor_cancel (Int.ofNat.inj h)
  exact crcS_ne ds i hi y b y0 y1 hy 4294967295 (by decide) h2
end Go.Proofs.YtechfdnfmapafaaDoor
