/- Plain mathematics of the sum: bit by bit, and half a byte at once. No program is named here. Plain mathematics: a bit that is turned turns the sum. No program is named here. Plain mathematics of a bit that is turned. -/
import Derived.Test.YtldepledinolmaaGreatDoorGBase
import Derived.Laws.BitsAllLaws
namespace Go.Proofs.YtldepledinolmaaGreatDoor

/-- One bit of the sum. -/
def bst (x : Nat) : Nat := x / 2 ^^^ (if x % 2 = 1 then 3988292384 else 0)
/-- The steps of half a byte. -/
def tab (i : Nat) : Nat := bst (bst (bst (bst i)))
def tabL : List Int := [0, 498536548, 997073096, 651767980, 1994146192, 1802195444, 1303535960, 1342533948, 3988292384, 4027552580, 3604390888, 3412177804, 2607071920, 2262029012, 2685067896, 3183342108]
def nib (x : Nat) : Nat := x / 16 ^^^ tab (x % 16)
def bst8 (x : Nat) : Nat := bst (bst (bst (bst (bst (bst (bst (bst x)))))))

theorem tab_eq : ∀ i, i < 16 → tabL.getD i 0 = (tab i : Int) := by decide
theorem xor_cancel {a b c : Nat} (h : a ^^^ c = b ^^^ c) : a = b := by
  have := congrArg (· ^^^ c) h
  simpa [Nat.xor_assoc] using this
theorem xor_nil {a b : Nat} (h : a ^^^ b = 0) : a = b := xor_cancel (c := b) (by rw [h, Nat.xor_self])
theorem xor_half (a b : Nat) : (a ^^^ b) / 2 = a / 2 ^^^ b / 2 := by
  apply Nat.eq_of_testBit_eq
  intro i
  simp only [Nat.testBit_div_two, Nat.testBit_xor]
theorem xor_odd (a b : Nat) : (a ^^^ b) % 2 = 1 ↔ ¬ (a % 2 = 1 ↔ b % 2 = 1) := by
  have h := Nat.testBit_xor a b 0
  simp only [Nat.testBit_zero] at h
  by_cases ha : a % 2 = 1 <;> by_cases hb : b % 2 = 1 <;> simp [ha, hb] at h ⊢ <;> omega
theorem bst_xor (a b : Nat) : bst (a ^^^ b) = bst a ^^^ bst b := by
  unfold bst
  rw [xor_half]
  have h := xor_odd a b
  by_cases ha : a % 2 = 1 <;> by_cases hb : b % 2 = 1
  · rw [if_neg (by rw [h]; simp [ha, hb]), if_pos ha, if_pos hb]
    apply Nat.eq_of_testBit_eq
    intro i
    simp only [Nat.testBit_xor, Nat.zero_testBit]
    cases (a / 2).testBit i <;> cases (b / 2).testBit i <;> cases (3988292384 : Nat).testBit i <;> rfl
  · rw [if_pos (by rw [h]; simp [ha, hb]), if_pos ha, if_neg hb]
    apply Nat.eq_of_testBit_eq
    intro i
    simp only [Nat.testBit_xor, Nat.zero_testBit]
    cases (a / 2).testBit i <;> cases (b / 2).testBit i <;> cases (3988292384 : Nat).testBit i <;> rfl
  · rw [if_pos (by rw [h]; simp [ha, hb]), if_neg ha, if_pos hb]
    apply Nat.eq_of_testBit_eq
    intro i
    simp only [Nat.testBit_xor, Nat.zero_testBit]
    cases (a / 2).testBit i <;> cases (b / 2).testBit i <;> cases (3988292384 : Nat).testBit i <;> rfl
  · rw [if_neg (by rw [h]; simp [ha, hb]), if_neg ha, if_neg hb]
    simp
theorem bst_even (q : Nat) : bst (2 * q) = q := by
  unfold bst
  rw [if_neg (by omega), show 2 * q / 2 = q by omega]
  simp
theorem split16 (x : Nat) : x = (2 * (2 * (2 * (2 * (x / 16))))) ^^^ (x % 16) := by
  rw [show 2 * (2 * (2 * (2 * (x / 16)))) = x / 2 ^ 4 * 2 ^ 4 by omega, show x % 16 = x % 2 ^ 4 by rfl]
  apply Nat.eq_of_testBit_eq
  intro i
  rw [Nat.testBit_xor, Nat.testBit_mul_two_pow, Nat.testBit_mod_two_pow, Nat.testBit_div_two_pow]
  by_cases h : i < 4
  · simp [h, show ¬ 4 ≤ i by omega]
  · simp [h, show 4 ≤ i by omega, show i - 4 + 4 = i by omega]
theorem bst4 (x : Nat) : bst (bst (bst (bst x))) = nib x := by
  conv => lhs; rw [split16 x]
  rw [bst_xor, bst_even, bst_xor, bst_even, bst_xor, bst_even, bst_xor, bst_even]
  rfl
theorem bst8_nib (x : Nat) : bst8 x = nib (nib x) := by
  unfold bst8
  rw [bst4, bst4]
theorem bst_lt {x : Nat} (h : x < 4294967296) : bst x < 4294967296 := by
  unfold bst
  have h1 : x / 2 < 2 ^ 32 := by omega
  have h2 : (if x % 2 = 1 then 3988292384 else 0) < 2 ^ 32 := by split <;> decide
  exact Nat.xor_lt_two_pow h1 h2
theorem bst8_lt {x : Nat} (h : x < 4294967296) : bst8 x < 4294967296 := bst_lt (bst_lt (bst_lt (bst_lt (bst_lt (bst_lt (bst_lt (bst_lt h)))))))
theorem nib_lt {x : Nat} (h : x < 4294967296) : nib x < 4294967296 := by rw [← bst4]; exact bst_lt (bst_lt (bst_lt (bst_lt h)))
theorem tab_lt {i : Nat} (h : i < 16) : tab i < 4294967296 := bst_lt (bst_lt (bst_lt (bst_lt (by omega))))
theorem bst_zero {x : Nat} (h : x < 4294967296) (e : bst x = 0) : x = 0 := by
  unfold bst at e
  by_cases ho : x % 2 = 1
  · rw [if_pos ho] at e
    have := xor_nil e
    omega
  · rw [if_neg ho] at e
    simp at e
    omega
theorem bst_inj {x y : Nat} (hx : x < 4294967296) (hy : y < 4294967296) (e : bst x = bst y) : x = y := by
  have h : bst (x ^^^ y) = 0 := by rw [bst_xor, e, Nat.xor_self]
  exact xor_nil (bst_zero (Nat.xor_lt_two_pow (n := 32) hx hy) h)
theorem bst8_inj {x y : Nat} (hx : x < 4294967296) (hy : y < 4294967296) (e : bst8 x = bst8 y) : x = y := by
  unfold bst8 at e
  have a1 := bst_lt hx
  have b1 := bst_lt hy
  have a2 := bst_lt a1
  have b2 := bst_lt b1
  have a3 := bst_lt a2
  have b3 := bst_lt b2
  have a4 := bst_lt a3
  have b4 := bst_lt b3
  have a5 := bst_lt a4
  have b5 := bst_lt b4
  have a6 := bst_lt a5
  have b6 := bst_lt b5
  have a7 := bst_lt a6
  have b7 := bst_lt b6
  exact bst_inj hx hy (bst_inj a1 b1 (bst_inj a2 b2 (bst_inj a3 b3 (bst_inj a4 b4 (bst_inj a5 b5 (bst_inj a6 b6 (bst_inj a7 b7 e)))))))

/-- The state behind the bytes l. -/
def crcS : Nat → List Int → Nat
  | s, [] => s
  | s, b :: r => crcS (bst8 (s ^^^ b.toNat)) r
theorem crcS_append : ∀ (l m : List Int) (s : Nat), crcS s (l ++ m) = crcS (crcS s l) m
  | [], _, _ => rfl
  | b :: r, m, s => by simp only [List.cons_append, crcS]; exact crcS_append r m _
theorem byte_xor_lt {s : Nat} {b : Int} (hs : s < 4294967296) (h1 : b < 256) : s ^^^ b.toNat < 4294967296 :=
  Nat.xor_lt_two_pow (n := 32) hs (by omega)
theorem crcS_lt : ∀ (l : List Int) (s : Nat), B8 l → s < 4294967296 → crcS s l < 4294967296
  | [], _, _, h => h
  | b :: r, s, h8, h => crcS_lt r _ (fun x hx => h8 x (List.mem_cons_of_mem _ hx)) (bst8_lt (byte_xor_lt h (h8 b (by simp)).2))
theorem crcS_inj : ∀ (l : List Int) (s t : Nat), B8 l → s < 4294967296 → t < 4294967296 → crcS s l = crcS t l → s = t
  | [], _, _, _, _, _, e => e
  | b :: r, s, t, h8, hs, ht, e => by
    have hb := (h8 b (by simp)).2
    have h := crcS_inj r _ _ (fun x hx => h8 x (List.mem_cons_of_mem _ hx)) (bst8_lt (byte_xor_lt hs hb)) (bst8_lt (byte_xor_lt ht hb)) e
    have h2 := bst8_inj (byte_xor_lt hs hb) (byte_xor_lt ht hb) h
    exact xor_cancel h2
/-- The code and the sum of a row of bytes. -/
def crcC (l : List Int) : Int := if l.length ≤ 4000 then 0 else 2
def crcV (l : List Int) : Int := if l.length ≤ 4000 then ((crcS 4294967295 l ^^^ 4294967295 : Nat) : Int) else 0
theorem crc_in {l : List Int} (h : l.length ≤ 4000) : crcC l = 0 ∧ crcV l = ((crcS 4294967295 l ^^^ 4294967295 : Nat) : Int) := ⟨if_pos h, if_pos h⟩
theorem crc_out {l : List Int} (h : ¬ l.length ≤ 4000) : crcC l = 2 ∧ crcV l = 0 := ⟨if_neg h, if_neg h⟩
theorem crcS_take (l : List Int) (s j : Nat) (hj : j < l.length) : crcS s (l.take (j + 1)) = bst8 (crcS s (l.take j) ^^^ l[j].toNat) := by
  rw [List.take_succ_eq_append_getElem hj, crcS_append]
  rfl
/-- k bits of the sum. -/
def bstI : Nat → Nat → Nat
  | 0, x => x
  | k + 1, x => bst (bstI k x)
theorem bstI_lt {x : Nat} (h : x < 4294967296) : ∀ k, bstI k x < 4294967296
  | 0 => h
  | k + 1 => bst_lt (bstI_lt h k)
theorem bstI_8 (x : Nat) : bstI 8 x = bst8 x := rfl
theorem wraps_i64_62 (n : Int) (h₀ : 0 ≤ n) (h₁ : n < 2 ^ 62) : IntKind.i64.wrap n = n := by rw [IntKind.wrap_i64]; omega
theorem i64_xor_nat (a b : Nat) (ha : a < 4294967296) (hb : b < 4294967296) : bits .xor .i64 (a : Int) (b : Int) = ((a ^^^ b : Nat) : Int) := by
  have hx : a ^^^ b < 2 ^ 32 := Nat.xor_lt_two_pow (by omega) (by omega)
  have ha' : a % 2 ^ IntKind.i64.bits = a := Nat.mod_eq_of_lt (by simp [IntKind.bits]; omega)
  have hb' : b % 2 ^ IntKind.i64.bits = b := Nat.mod_eq_of_lt (by simp [IntKind.bits]; omega)
  simp only [bits, BitVec.ofInt_natCast, BitVec.toNat_xor, BitVec.toNat_ofNat, ha', hb']
  exact wraps_i64_62 _ (by omega) (by omega)
theorem i64_bst (y : Nat) (h : y < 4294967296) (ho : y % 2 = 1) : bits .xor .i64 ((y : Int) / 2) 3988292384 = (bst y : Int) := by
  have := i64_xor_nat (y / 2) 3988292384 (by omega) (by omega)
  rw [show ((y : Int) / 2) = ((y / 2 : Nat) : Int) by omega]
  unfold bst
  rw [if_pos ho]
  exact this
theorem bst_of_even (y : Nat) (ho : ¬ y % 2 = 1) : ((y : Int) / 2) = (bst y : Int) := by
  unfold bst
  rw [if_neg ho]
  simp
theorem u32_nib (y : Nat) (h : y < 4294967296) : bits .xor .u32 ((y : Int) / 16) (tab (y % 16) : Int) = (nib y : Int) := by
  rw [show ((y : Int) / 16) = ((y / 16 : Nat) : Int) by omega]
  exact u32_xor_nat _ _ (by omega) (tab_lt (by omega))
end Go.Proofs.YtldepledinolmaaGreatDoor
namespace Go.Proofs.YtldepledinolmaaGreatDoor

theorem xor_ne (a c : Nat) (hc : c ≠ 0) : a ^^^ c ≠ a := by
  intro h
  apply hc
  have h2 : c ^^^ a = 0 ^^^ a := by rw [Nat.xor_comm, h, Nat.zero_xor]
  exact xor_cancel h2
theorem flip_one (x : Int) (h0 : 0 ≤ x) (h1 : x < 256) (m : Int) (m0 : 0 < m) (m1 : m < 256) : 0 ≤ bits .xor .u8 x m ∧ bits .xor .u8 x m < 256 ∧ bits .xor .u8 x m ≠ x := by
  rw [u8_xor x m h0 h1 (by omega) m1]
  have a : x.toNat ^^^ m.toNat < 2 ^ 8 := Nat.xor_lt_two_pow (by omega) (by omega)
  have b := xor_ne x.toNat m.toNat (by omega)
  omega
theorem flip_bit (x : Int) (h0 : 0 ≤ x) (h1 : x < 256) (i : Nat) (hi : i < 8) :
    0 ≤ bits .xor .u8 x (IntKind.u8.wrap (2 ^ min (IntKind.u64.wrap (i : Int)).toNat 8)) ∧ bits .xor .u8 x (IntKind.u8.wrap (2 ^ min (IntKind.u64.wrap (i : Int)).toNat 8)) < 256 ∧
      bits .xor .u8 x (IntKind.u8.wrap (2 ^ min (IntKind.u64.wrap (i : Int)).toNat 8)) ≠ x := by
  have hc : i = 0 ∨ i = 1 ∨ i = 2 ∨ i = 3 ∨ i = 4 ∨ i = 5 ∨ i = 6 ∨ i = 7 := by omega
  have hm : 0 < IntKind.u8.wrap (2 ^ min (IntKind.u64.wrap (i : Int)).toNat 8) ∧ IntKind.u8.wrap (2 ^ min (IntKind.u64.wrap (i : Int)).toNat 8) < 256 := by
    rcases hc with rfl | rfl | rfl | rfl | rfl | rfl | rfl | rfl <;> decide
  exact flip_one x h0 h1 _ hm.1 hm.2
theorem crcS_ne (ds : List Int) (i : Nat) (hi : i < ds.length) (y : Int) (b : B8 ds) (y0 : 0 ≤ y) (y1 : y < 256) (hy : y ≠ ds[i]) (s : Nat) (hs : s < 4294967296) : crcS s (ds.set i y) ≠ crcS s ds := by
  intro h
  have e1 : ds.set i y = ds.take i ++ y :: ds.drop (i + 1) := List.set_eq_take_append_cons_drop.trans (if_pos hi)
  have e2 : ds = ds.take i ++ ds[i] :: ds.drop (i + 1) := by rw [← List.drop_eq_getElem_cons hi, List.take_append_drop]
  have h2 : crcS (crcS s (ds.take i)) (y :: ds.drop (i + 1)) = crcS (crcS s (ds.take i)) (ds[i] :: ds.drop (i + 1)) := by
    rw [← crcS_append, ← crcS_append, ← e1, ← e2]
    exact h
  have t := crcS_lt (ds.take i) s (b.take i) hs
  obtain ⟨x0, x1⟩ := b.get i hi
  simp only [crcS] at h2
  have h3 := crcS_inj (ds.drop (i + 1)) _ _ (b.drop _) (bst8_lt (byte_xor_lt t y1)) (bst8_lt (byte_xor_lt t x1)) h2
  have h4 := bst8_inj (byte_xor_lt t y1) (byte_xor_lt t x1) h3
  rw [Nat.xor_comm, Nat.xor_comm (crcS s (ds.take i))] at h4
  have h5 := xor_cancel h4
  omega
/-- A byte that is another one makes another sum. -/
theorem crc_ne (ds : List Int) (i : Nat) (hi : i < ds.length) (y : Int) (b : B8 ds) (y0 : 0 ≤ y) (y1 : y < 256) (hy : y ≠ ds[i]) (hc : crcC ds = 0) : crcC (ds.set i y) = 0 ∧ crcV (ds.set i y) ≠ crcV ds := by
  have hl : ds.length ≤ 4000 := by
    rcases Nat.lt_or_ge 4000 ds.length with h | h
    · rw [(crc_out (by omega)).1] at hc
      omega
    · exact h
  have hl2 : (ds.set i y).length ≤ 4000 := by simpa using hl
  refine ⟨(crc_in hl2).1, ?_⟩
  rw [(crc_in hl2).2, (crc_in hl).2]
  intro h
  have h2 := xor_cancel (Int.ofNat.inj h)
  exact crcS_ne ds i hi y b y0 y1 hy 4294967295 (by decide) h2
end Go.Proofs.YtldepledinolmaaGreatDoor
namespace Go.Proofs.YtldepledinolmaaGreatDoor

def tbOk (n : Nat) (a b : Int) : Prop := (0 ≤ a ∧ a ≤ (n : Int) - 1) ∧ (0 ≤ b ∧ b ≤ 7)
instance (n : Nat) (a b : Int) : Decidable (tbOk n a b) := by unfold tbOk; infer_instance
def tbC (l : List Int) (a b : Int) : Int := if l.length ≤ 4000 then (if tbOk l.length a b then 0 else 3) else 2
/-- A byte in which a bit is turned. -/
def tbY (x b : Int) : Int := bits .xor .u8 x (2 ^ b.toNat)
def tbL (l : List Int) (a b : Int) : List Int := l.set a.toNat (tbY (l.getD a.toNat 0) b)
def tbB (l : List Int) (a b : Int) : List Int := if tbC l a b = 0 then tbL l a b else []
theorem tbL_len (l : List Int) (a b : Int) : (tbL l a b).length = l.length := List.length_set ..
theorem tb_many {l : List Int} {a b : Int} (h : ¬ l.length ≤ 4000) : tbC l a b = 2 := if_neg h
theorem tb_range {l : List Int} {a b : Int} (h : l.length ≤ 4000) (h1 : ¬ tbOk l.length a b) : tbC l a b = 3 := by unfold tbC; rw [if_pos h, if_neg h1]
theorem tb_ok {l : List Int} {a b : Int} (h : l.length ≤ 4000) (h1 : tbOk l.length a b) : tbC l a b = 0 := by unfold tbC; rw [if_pos h, if_pos h1]
theorem tbB_ok {l : List Int} {a b : Int} (h : l.length ≤ 4000) (h1 : tbOk l.length a b) : tbB l a b = tbL l a b := if_pos (tb_ok h h1)
theorem tbB_no {l : List Int} {a b : Int} (h : ¬ tbC l a b = 0) : tbB l a b = [] := if_neg h
theorem tb_zero {l : List Int} {a b : Int} (h : tbC l a b = 0) : l.length ≤ 4000 ∧ tbOk l.length a b := by
  by_cases h1 : l.length ≤ 4000
  · by_cases h2 : tbOk l.length a b
    · exact ⟨h1, h2⟩
    · rw [tb_range h1 h2] at h; omega
  · rw [tb_many h1] at h; omega
theorem tbB_few (l : List Int) (a b : Int) : (tbB l a b).length ≤ 4000 := by
  by_cases h : tbC l a b = 0
  · rw [tbB_ok (tb_zero h).1 (tb_zero h).2, tbL_len]; exact (tb_zero h).1
  · rw [tbB_no h]; simp
theorem two_pow8 {b : Int} (h0 : 0 ≤ b) (h1 : b ≤ 7) : 0 < (2 : Int) ^ b.toNat ∧ (2 : Int) ^ b.toNat < 256 := by
  have hc : b = 0 ∨ b = 1 ∨ b = 2 ∨ b = 3 ∨ b = 4 ∨ b = 5 ∨ b = 6 ∨ b = 7 := by omega
  rcases hc with rfl | rfl | rfl | rfl | rfl | rfl | rfl | rfl <;> decide
theorem tbY_ne {x b : Int} (h0 : 0 ≤ x) (h1 : x < 256) (b0 : 0 ≤ b) (b1 : b ≤ 7) : 0 ≤ tbY x b ∧ tbY x b < 256 ∧ tbY x b ≠ x := by
  obtain ⟨m0, m1⟩ := two_pow8 b0 b1
  exact flip_one x h0 h1 _ m0 m1
theorem tbY_back {x b : Int} (h0 : 0 ≤ x) (h1 : x < 256) (b0 : 0 ≤ b) (b1 : b ≤ 7) : tbY (tbY x b) b = x := by
  obtain ⟨m0, m1⟩ := two_pow8 b0 b1
  obtain ⟨y0, y1, _⟩ := tbY_ne h0 h1 b0 b1
  have e1 : tbY x b = ((x.toNat ^^^ ((2 : Int) ^ b.toNat).toNat : Nat) : Int) := u8_xor x _ h0 h1 (by omega) m1
  have e2 : tbY (tbY x b) b = (((tbY x b).toNat ^^^ ((2 : Int) ^ b.toNat).toNat : Nat) : Int) := u8_xor _ _ y0 y1 (by omega) m1
  rw [e2, e1, Int.toNat_natCast, Nat.xor_assoc, Nat.xor_self, Nat.xor_zero]
  omega
section
variable {l : List Int} {a b : Int}
theorem tb_at (hk : tbOk l.length a b) : a.toNat < l.length := by obtain ⟨⟨h1, h2⟩, _⟩ := hk; omega
theorem tb_get (hk : tbOk l.length a b) : l.getD a.toNat 0 = l[a.toNat]'(tb_at hk) := by rw [List.getD_eq_getElem?_getD, List.getElem?_eq_getElem (tb_at hk)]; rfl
theorem tbL_ne (h : B8 l) (hk : tbOk l.length a b) : tbL l a b ≠ l := by
  have hi := tb_at hk
  have hx := h.get _ hi
  have hy := (tbY_ne hx.1 hx.2 hk.2.1 hk.2.2).2.2
  intro e
  have := congrArg (fun m => m[a.toNat]?) e
  unfold tbL at this
  simp only [List.getElem?_set_self hi, List.getElem?_eq_getElem hi, Option.some.injEq, tb_get hk] at this
  exact hy this
theorem tbL_back (h : B8 l) (hk : tbOk l.length a b) : tbL (tbL l a b) a b = l := by
  have hi := tb_at hk
  have hx := h.get _ hi
  have hg : (tbL l a b).getD a.toNat 0 = tbY (l.getD a.toNat 0) b := by
    unfold tbL
    rw [List.getD_eq_getElem?_getD, List.getElem?_set_self hi]
    rfl
  have e : tbL (tbL l a b) a b = l.set a.toNat l[a.toNat] := by
    show (tbL l a b).set a.toNat (tbY ((tbL l a b).getD a.toNat 0) b) = _
    rw [hg]
    unfold tbL
    rw [List.set_set, tb_get hk, tbY_back hx.1 hx.2 hk.2.1 hk.2.2]
  rw [e]
  exact List.set_getElem_self hi
theorem tbL_B8 (h : B8 l) (hk : tbOk l.length a b) : B8 (tbL l a b) := fun x hx => by
  have hi := tb_at hk
  have h1 := h.get _ hi
  rcases List.mem_or_eq_of_mem_set hx with e | e
  · exact h x e
  · rw [e, tb_get hk]
    have := tbY_ne h1.1 h1.2 hk.2.1 hk.2.2
    exact ⟨this.1, this.2.1⟩
end
end Go.Proofs.YtldepledinolmaaGreatDoor
