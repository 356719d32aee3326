/- Strings as rows of numbers: plain lemmas; no function of the program is named here. Plain mathematics of numbers as texts. No function of the program is named here. Plain mathematics of traces as texts. No function of the program is named here. Numbers as texts: the document's own functions. Numbers as texts: reading a word. Numbers as texts: ReadHex, NumberOf of the document. Numbers as texts: HexOf, an event's text, of the document. -/
import Derived.Test.YtmdaianbhpppfaaGreatDoorGBase
import Derived.Laws.Strings3
import Derived.Laws.DeepStrings4
import Derived.Laws.Concat
import Derived.Test.YtmdaianbhpppfaaGreatDoorProg
import Derived.StillTailTactics
import Derived.Lib.Hide
import Derived.ProofKit
import Derived.OpenShut
import Derived.Handy
import Derived.Outline
import Derived.WalkLawsBesides
import Derived.BigQuiet
import Derived.Deep.QuietTactic
namespace Go.Proofs.YtmdaianbhpppfaaGreatDoor
open Go.RowKit

/-- The numbers of a string. -/
def numsOf (s : ByteArray) : List Int := s.data.toList.map fun x => (x.toNat : Int)
theorem numsOf_B8 (s : ByteArray) : B8 (numsOf s) := fun x hx => by
  obtain ⟨y, _, rfl⟩ := List.mem_map.1 hx
  have := y.toNat_lt
  omega
theorem numsOf_str (s : ByteArray) : strOfNums (numsOf s) = s := by
  apply ByteArray.ext
  unfold strOfNums numsOf
  rw [List.map_map]
  have : ((fun n : Int => UInt8.ofNat n.toNat) ∘ fun x : UInt8 => (x.toNat : Int)) = id := by
    funext x
    simp
  rw [this, List.map_id]
theorem strS_append (l m : List Int) : strOfNums l ++ strOfNums m = strOfNums (l ++ m) := by
  unfold strOfNums
  rw [ByteArray.mk_append_mk, List.map_append]
theorem strS_cut (l : List Int) (i j : Nat) : (strOfNums l).extract i j = strOfNums ((l.drop i).take (j - i)) := by
  unfold strOfNums
  rw [ByteArray.extract_mk, List.map_take, List.map_drop]
theorem strS_get {l : List Int} (b : B8 l) (i : Nat) (h : i < (strOfNums l).size) (h' : i < l.length) : (((strOfNums l)[i]'h).toNat : Int) = l[i] := by
  have hq : i < (l.map fun n => UInt8.ofNat n.toNat).toArray.size := by simpa using h'
  have e0 : (strOfNums l)[i]'h = (l.map fun n => UInt8.ofNat n.toNat).toArray[i]'hq := rfl
  have e1 : (l.map fun n => UInt8.ofNat n.toNat).toArray[i]'hq = UInt8.ofNat (l[i]).toNat := by rw [List.getElem_toArray, List.getElem_map]
  have e := e0.trans e1
  rw [e]
  have := b.get i h'
  simp only [UInt8.toNat_ofNat']
  omega

section
variable {P : Program}
theorem run_sadd {l m : List Int} (h : l.length + m.length ≤ 9223372036854775807) (w : World) : (Op.stringOp .add (strOfNums l) (strOfNums m)).run P w = .ok (.string (strOfNums (l ++ m))) w := by
  rw [run_string_add_sum w _ _ (by rw [strOfNums_size, strOfNums_size]; exact h), strS_append]
theorem run_sget {t : TypeId} (ht : P.underlying t = some .string) {l : List Int} (b : B8 l) {i : Nat} (h : i < l.length) (k : IntKind) {z : Int} (hz : z = i) (w : World) : (Instr.index t (.string (strOfNums l)) (.int k z)).run P w = .ok (.int .u8 l[i]) w := by
  subst hz
  rw [run_index_string w t _ k _ ht, dif_pos (by rw [strOfNums_size]; omega)]
  have := strS_get b i (by rw [strOfNums_size]; exact h) h
  simp only [Int.toNat_natCast, this]
theorem run_slen {t : TypeId} (ht : P.underlying t = some .string) (ty : TypeId) (l : List Int) (w : World) : (Builtin.len_ #[t] ty #[.string (strOfNums l)]).run P w = .ok (goInt l.length) w := by
  rw [run_len_string w t ty _ ht, strOfNums_size]
theorem run_sto {t : TypeId} (ht : P.underlying t = some .string) {l : List Int} {j : Nat} (h : j ≤ l.length) (k : IntKind) {z : Int} (hz : z = j) (w : World) : (Instr.slice t (.string (strOfNums l)) none (some (.int k z)) none).run P w = .ok (.string (strOfNums (l.take j))) w := by
  subst hz
  rw [run_slice_string_to_if w t _ k _ ht, if_pos (by rw [strOfNums_size]; omega), strS_cut]
  simp
theorem run_sfrom {t : TypeId} (ht : P.underlying t = some .string) {l : List Int} {i : Nat} (h : i ≤ l.length) (k : IntKind) {z : Int} (hz : z = i) (w : World) : (Instr.slice t (.string (strOfNums l)) (some (.int k z)) none none).run P w = .ok (.string (strOfNums (l.drop i))) w := by
  subst hz
  rw [run_slice_string_from_if w t _ k _ ht, if_pos (by rw [strOfNums_size]; omega), strS_cut, strOfNums_size]
  rw [Int.toNat_natCast, List.take_of_length_le (by simp)]
theorem run_scut {t : TypeId} (ht : P.underlying t = some .string) {l : List Int} {i j : Nat} (h : i ≤ j) (h' : j ≤ l.length) (k k' : IntKind) {z z' : Int} (hz : z = i) (hz' : z' = j) (w : World) : (Instr.slice t (.string (strOfNums l)) (some (.int k z)) (some (.int k' z')) none).run P w = .ok (.string (strOfNums ((l.drop i).take (j - i)))) w := by
  subst hz hz'
  rw [run_slice_string w t _ k k' _ _ ht (by omega) (by omega) (by rw [strOfNums_size]; omega), strS_cut]
  rfl
/-- One byte laid in a row of its own, and turned into a string (now, or later). -/
theorem run_sbyte {src dst e ty : TypeId} (hs : P.underlying src = some (.slice e)) (he : P.underlying e = some (.int .u8)) (hd : P.underlying dst = some .string) (x : Int) (W W' : World)
    (hb : Below (W.alloc (Obj.cells #[.int .u8 x] ty)).heap.size (W.alloc (Obj.cells #[.int .u8 x] ty)) W') :
    (convert src dst (.slice (some ⟨W.heap.size, 0, none⟩) 1 1)).run P W' = .ok (.string (strOfNums [x])) W' := by
  refine run_str (l := [x]) (B := W.heap.size + 1) 1 src e hs he (fun _ => ⟨W.heap.size, 0, rfl, by omega, fun i hi => ?_⟩) dst hd
  have hi0 : i = 0 := by simp at hi; omega
  subst hi0
  rw [hb.cell (p := ⟨W.heap.size, 0 + 0, none⟩) (by simp), World.cell?_alloc_at (w := W) _ ty W.heap.size (0 + 0) rfl]
  rfl
end
/-- Two strings are one just if their rows are. -/
theorem seq_str {l m : List Int} (h : B8 l) (h' : B8 m) : ((strOfNums l).toList == (strOfNums m).toList) = (l == m) := by
  by_cases e : l = m
  · subst e; simp
  · have h3 : ¬ (strOfNums l).toList = (strOfNums m).toList := by
      intro e2
      rw [ByteArray.toList_eq, ByteArray.toList_eq] at e2
      exact e (str_inj h h' (ByteArray.ext (Array.toList_inj.1 e2)))
    rw [beq_eq_false_iff_ne.2 h3, beq_eq_false_iff_ne.2 e]
/-- The same, the second written out. -/
theorem seq_lit {l m : List Int} (h : B8 l) (h' : B8 m) {u : List UInt8} (hu : u = m.map fun n => UInt8.ofNat n.toNat) : ((strOfNums l).toList == u) = (l == m) := by
  rw [← seq_str h h', hu]
  congr 1
  rw [ByteArray.toList_eq]
  rfl
end Go.Proofs.YtmdaianbhpppfaaGreatDoor
namespace Go.Proofs.YtmdaianbhpppfaaGreatDoor
open Go.RowKit

/-- A digit's sign. -/
def dg (n : Nat) : Int := if n < 10 then 48 + n else 87 + n
/-- A number's signs in base b, at most f of them. -/
def digS (b : Nat) : Nat → Nat → List Int
  | 0, _ => []
  | f + 1, n => if n < b then [dg n] else digS b f (n / b) ++ [dg (n % b)]
def digL (b n : Nat) : List Int := digS b (n + 1) n
theorem digS_fuel {b : Nat} (hb : 2 ≤ b) : ∀ (f g n : Nat), n < f → n < g → digS b f n = digS b g n
  | 0, _, n, h, _ => by omega
  | f + 1, 0, n, _, h => by omega
  | f + 1, g + 1, n, h, h' => by
    unfold digS
    by_cases hn : n < b
    · rw [if_pos hn, if_pos hn]
    · have : n / b < n := Nat.div_lt_self (by omega) (by omega)
      rw [if_neg hn, if_neg hn, digS_fuel hb f g (n / b) (by omega) (by omega)]
theorem digL_few {b n : Nat} (h : n < b) : digL b n = [dg n] := by unfold digL digS; rw [if_pos h]
theorem digL_more {b n : Nat} (hb : 2 ≤ b) (h : ¬ n < b) : digL b n = digL b (n / b) ++ [dg (n % b)] := by
  have : n / b < n := Nat.div_lt_self (by omega) (by omega)
  conv => lhs; unfold digL digS
  rw [if_neg h, digS_fuel hb n (n / b + 1) (n / b) (by omega) (by omega)]
  rfl
theorem dg_B8 {n : Nat} (h : n < 16) : 0 ≤ dg n ∧ dg n < 256 := by unfold dg; split <;> omega
theorem digS_B8 {b : Nat} (hb : 2 ≤ b) (hb16 : b ≤ 16) : ∀ (f n : Nat), B8 (digS b f n)
  | 0, n => fun x hx => by simp [digS] at hx
  | f + 1, n => by
    unfold digS
    by_cases hn : n < b
    · rw [if_pos hn]; exact B8.one (dg_B8 (by omega)).1 (dg_B8 (by omega)).2
    · have := Nat.mod_lt n (show 0 < b by omega)
      rw [if_neg hn]; exact (digS_B8 hb hb16 f _).append (B8.one (dg_B8 (by omega)).1 (dg_B8 (by omega)).2)
theorem digL_B8 {b : Nat} (hb : 2 ≤ b) (hb16 : b ≤ 16) (n : Nat) : B8 (digL b n) := digS_B8 hb hb16 _ _
theorem digL_pos {b : Nat} (hb : 2 ≤ b) (n : Nat) : 0 < (digL b n).length := by
  by_cases h : n < b
  · rw [digL_few h]; simp
  · rw [digL_more hb h]; simp
theorem digL_len {b : Nat} (hb : 2 ≤ b) : ∀ (k n : Nat), n < b ^ (k + 1) → (digL b n).length ≤ k + 1
  | 0, n, h => by
    rw [Nat.zero_add, Nat.pow_one] at h
    rw [digL_few h]; simp
  | k + 1, n, h => by
    by_cases hn : n < b
    · rw [digL_few hn]; simp
    · rw [digL_more hb hn, List.length_append]
      have h1 : n / b < b ^ (k + 1) := by
        rw [Nat.div_lt_iff_lt_mul (by omega)]
        rw [Nat.pow_succ] at h
        exact h
      have := digL_len hb k (n / b) h1
      simp only [List.length_cons, List.length_nil]
      omega
/-- The first sign of a number that is not 0 is no 0. -/
theorem digL_head {b : Nat} (hb : 2 ≤ b) (hb16 : b ≤ 16) : ∀ (f n : Nat), n < f → 1 ≤ n → (digL b n).getD 0 0 ≠ 48
  | 0, n, h, _ => by omega
  | f + 1, n, h, h1 => by
    by_cases hn : n < b
    · rw [digL_few hn]
      simp only [List.getD_cons_zero]
      unfold dg
      split <;> omega
    · have hd : n / b < n := Nat.div_lt_self (by omega) (by omega)
      have hp : 1 ≤ n / b := by rw [Nat.le_div_iff_mul_le (by omega)]; omega
      rw [digL_more hb hn]
      have hl := digL_pos hb (n / b)
      rw [List.getD_eq_getElem?_getD, List.getElem?_append_left hl, ← List.getD_eq_getElem?_getD]
      exact digL_head hb hb16 f (n / b) (by omega) hp

/-- What a sign is, in a base; -1: it is no digit. -/
def dgV (c : Int) : Int := if 48 ≤ c ∧ c ≤ 57 then c - 48 else if 97 ≤ c ∧ c ≤ 102 then c - 87 else -1
def dgB (base c : Int) : Int := if base ≤ dgV c then -1 else dgV c
/-- What signs are, behind the number a; -1: they are none. -/
def numV (base : Int) : Int → List Int → Int
  | a, [] => a
  | a, c :: r => if dgB base c < 0 then -1 else numV base (a * base + dgB base c) r
def numL (base : Int) (most : Nat) (l : List Int) : Int := if l.length < 1 ∨ most < l.length ∨ l.getD 0 0 = 48 ∧ 1 < l.length then -1 else numV base 0 l
theorem dgB_dg {b n : Nat} (hb16 : b ≤ 16) (h : n < b) : dgB b (dg n) = n := by
  have h1 : dgV (dg n) = n := by
    unfold dg dgV
    by_cases h10 : n < 10
    · rw [if_pos h10, if_pos (by omega)]; omega
    · rw [if_neg h10, if_neg (by omega), if_pos (by omega)]; omega
  unfold dgB
  rw [h1, if_neg (by omega)]
theorem dgB_back {base c : Int} (h : 0 ≤ dgB base c) : dg (dgB base c).toNat = c ∧ dgB base c < base ∧ dgB base c < 16 := by
  unfold dgB at h ⊢
  by_cases h1 : base ≤ dgV c
  · rw [if_pos h1] at h; omega
  · rw [if_neg h1] at h ⊢
    unfold dgV at h h1 ⊢
    by_cases h2 : 48 ≤ c ∧ c ≤ 57
    · rw [if_pos h2] at h1 ⊢
      refine ⟨?_, by omega, by omega⟩
      unfold dg
      rw [if_pos (by omega)]; omega
    · rw [if_neg h2] at h h1 ⊢
      by_cases h3 : 97 ≤ c ∧ c ≤ 102
      · rw [if_pos h3] at h1 ⊢
        refine ⟨?_, by omega, by omega⟩
        unfold dg
        rw [if_neg (by omega)]; omega
      · rw [if_neg h3] at h; omega
theorem numV_cons (base a x : Int) (r : List Int) : numV base a (x :: r) = if dgB base x < 0 then -1 else numV base (a * base + dgB base x) r := by rw [numV]
theorem numV_snoc (base : Int) (hb : 0 ≤ base) (c : Int) : ∀ (l : List Int) (a : Int), 0 ≤ a → numV base a (l ++ [c]) = if numV base a l < 0 then -1 else if dgB base c < 0 then -1 else numV base a l * base + dgB base c
  | [], a, ha => by
    rw [List.nil_append, numV_cons]
    rw [show numV base a [] = a from rfl, if_neg (show ¬ a < 0 by omega)]
    by_cases hx : dgB base c < 0
    · rw [if_pos hx, if_pos hx]
    · rw [if_neg hx, if_neg hx]; rfl
  | x :: r, a, ha => by
    rw [List.cons_append, numV_cons, numV_cons]
    by_cases hx : dgB base x < 0
    · rw [if_pos hx, if_pos hx]; rfl
    · rw [if_neg hx, if_neg hx]
      have h1 : 0 ≤ a * base := Int.mul_nonneg ha hb
      exact numV_snoc base hb c r _ (by omega)
theorem numV_back {b : Nat} (hb : 2 ≤ b) (hb16 : b ≤ 16) : ∀ (f n : Nat), n < f → numV b 0 (digL b n) = n
  | 0, n, h => by omega
  | f + 1, n, h => by
    by_cases hn : n < b
    · rw [digL_few hn]
      simp only [numV]
      rw [dgB_dg hb16 hn, if_neg (by omega)]
      omega
    · have hd : n / b < n := Nat.div_lt_self (by omega) (by omega)
      have hm := Nat.mod_lt n (show 0 < b by omega)
      rw [digL_more hb hn, numV_snoc b (by omega) _ _ 0 (by omega), numV_back hb hb16 f (n / b) (by omega), dgB_dg hb16 hm, if_neg (by have := Int.natCast_nonneg (n / b); omega), if_neg (by have := Int.natCast_nonneg (n % b); omega)]
      have h1 := Nat.div_add_mod n b
      generalize n / b = q at h1
      generalize n % b = m at h1
      rw [← h1, Int.natCast_add, Int.natCast_mul, Int.mul_comm]
/-- A number's text is read back. -/
theorem numL_back {b most n : Nat} (hb : 2 ≤ b) (hb16 : b ≤ 16) (h : (digL b n).length ≤ most) : numL b most (digL b n) = n := by
  unfold numL
  rw [if_neg, numV_back hb hb16 (n + 1) n (by omega)]
  rintro (h1 | h1 | ⟨h1, h2⟩)
  · have := digL_pos hb n; omega
  · omega
  · by_cases hn : 1 ≤ n
    · exact digL_head hb hb16 (n + 1) n (by omega) hn h1
    · rw [digL_few (by omega)] at h2; simp at h2
theorem numV_one {b : Nat} (hb : 2 ≤ b) (hb16 : b ≤ 16) : ∀ (k : Nat) (l : List Int), l.length = k → 0 < k → ¬ (l.getD 0 0 = 48 ∧ 1 < l.length) → 0 ≤ numV b 0 l → l = digL b (numV b 0 l).toNat
  | 0, l, _, h, _, _ => by omega
  | k + 1, l, hl, _, h0, hv => by
    obtain ⟨x, c, rfl⟩ : ∃ x c, l = x ++ [c] := ⟨l.dropLast, l.getLast (by intro e; rw [e] at hl; simp at hl), (List.dropLast_concat_getLast _).symm⟩
    rw [numV_snoc b (by omega) c x 0 (by omega)] at hv ⊢
    by_cases h1 : numV b 0 x < 0
    · rw [if_pos h1] at hv; omega
    · rw [if_neg h1] at hv ⊢
      by_cases h2 : dgB b c < 0
      · rw [if_pos h2] at hv; omega
      · rw [if_neg h2] at hv ⊢
        obtain ⟨c1, c2, _⟩ := dgB_back (show 0 ≤ dgB b c by omega)
        obtain ⟨d, hd⟩ := Int.eq_ofNat_of_zero_le (show 0 ≤ dgB b c by omega)
        rw [hd] at c1 c2 ⊢
        rw [Int.toNat_natCast] at c1
        rcases hx : x with _ | ⟨y, r⟩
        · simp only [numV, List.nil_append]
          rw [show ((0 : Int) * b + d).toNat = d by omega, digL_few (by omega), c1]
        · have hxl : 0 < x.length := by rw [hx]; simp
          simp only [List.length_append, List.length_cons, List.length_nil] at hl h0
          have hg : (x ++ [c]).getD 0 0 = x.getD 0 0 := by rw [hx]; rfl
          have hx0 : x.getD 0 0 ≠ 48 := fun e => h0 ⟨by rw [hg]; exact e, by omega⟩
          have ih := numV_one hb hb16 k x (by omega) (by omega) (fun h => hx0 h.1) (by omega)
          obtain ⟨v, hv2⟩ := Int.eq_ofNat_of_zero_le (show 0 ≤ numV b 0 x by omega)
          rw [← hx]
          rw [hv2] at ih ⊢
          rw [Int.toNat_natCast] at ih
          have hv1 : 1 ≤ v := by
            rcases v with _ | v
            · exfalso
              rw [ih, digL_few (by omega)] at hx0
              exact hx0 rfl
            · omega
          have e : ((v : Int) * (b : Int) + (d : Int)).toNat = b * v + d := by
            rw [show (v : Int) * (b : Int) + (d : Int) = ((b * v + d : Nat) : Int) by rw [Int.natCast_add, Int.natCast_mul, Int.mul_comm]]
            exact Int.toNat_natCast _
          have hge : b ≤ b * v := Nat.le_mul_of_pos_right b (by omega)
          have hdv : (b * v + d) / b = v := by rw [Nat.mul_add_div (by omega), Nat.div_eq_of_lt (by omega), Nat.add_zero]
          have hdm : (b * v + d) % b = d := by rw [Nat.mul_add_mod, Nat.mod_eq_of_lt (by omega)]
          rw [e, digL_more hb (by omega), hdv, hdm, ← ih, c1]
/-- What is read has one text. -/
theorem numL_one {b most : Nat} (hb : 2 ≤ b) (hb16 : b ≤ 16) {l : List Int} (h : 0 ≤ numL b most l) : l = digL b (numL b most l).toNat ∧ l.length ≤ most := by
  unfold numL at h ⊢
  by_cases h1 : l.length < 1 ∨ most < l.length ∨ l.getD 0 0 = 48 ∧ 1 < l.length
  · rw [if_pos h1] at h; omega
  · rw [if_neg h1] at h ⊢
    exact ⟨numV_one hb hb16 l.length l rfl (by omega) (fun h => h1 (.inr (.inr h))) h, by omega⟩
end Go.Proofs.YtmdaianbhpppfaaGreatDoor
namespace Go.Proofs.YtmdaianbhpppfaaGreatDoor
open Go.RowKit

/-- An event's text; the lines of a row of events; of cores from number i on; a trace's text. -/
def txE (e : Ev) : List Int := [if e.k = 1 then 119 else 114, 32, 48, 120] ++ (digL 16 e.a.toNat ++ ([32] ++ digL 10 e.v.toNat))
def prC : List Ev → List Int
  | [] => []
  | e :: r => txE e ++ ([10] ++ prC r)
def prS : Nat → List (List Ev) → List Int
  | _, [] => []
  | i, l :: r => [99, 111, 114, 101, 32] ++ (digL 10 i ++ ([10] ++ (prC l ++ prS (i + 1) r)))
def prL (t : List (List Ev)) : List Int := [116, 114, 97, 99, 101, 32] ++ (digL 10 t.length ++ ([10] ++ prS 0 t))

/-- A row of signs cut at a sign. -/
def cutS (s : Int) : List Int → List Int → List (List Int)
  | cur, [] => [cur]
  | cur, c :: r => if c = s then cur :: cutS s [] r else cutS s (cur ++ [c]) r
theorem cutS_no {s : Int} : ∀ (x cur r : List Int), (∀ c ∈ x, c ≠ s) → cutS s cur (x ++ r) = cutS s (cur ++ x) r
  | [], cur, r, _ => by simp
  | c :: x, cur, r, h => by
    rw [List.cons_append, cutS, if_neg (h c (List.mem_cons_self ..)), cutS_no x _ r (fun d hd => h d (List.mem_cons_of_mem _ hd)), List.append_assoc]
    rfl
theorem cutS_at {s : Int} (x cur r : List Int) (h : ∀ c ∈ x, c ≠ s) : cutS s cur (x ++ ([s] ++ r)) = (cur ++ x) :: cutS s [] r := by
  rw [cutS_no x cur _ h]
  show cutS s (cur ++ x) (s :: r) = _
  rw [cutS, if_pos rfl]
theorem cutS_end {s : Int} (x cur : List Int) (h : ∀ c ∈ x, c ≠ s) : cutS s cur x = [cur ++ x] := by
  have := cutS_no x cur [] h
  rw [List.append_nil] at this
  rw [this]; rfl

/-- What the word of an address is; -1: none. -/
def hexV (w : List Int) : Int := if w.length < 3 ∨ w.take 2 ≠ [48, 120] then -1 else (if 999999 < numL 16 5 (w.drop 2) then -1 else numL 16 5 (w.drop 2))
/-- The event of a line. -/
def lnE (ws : List (List Int)) : Ev := ⟨if ws.getD 0 [] = [119] then 1 else 0, hexV (ws.getD 1 []), numL 10 6 (ws.getD 2 [])⟩
def lnOk (ws : List (List Int)) : Prop := ws.length = 3 ∧ (ws.getD 0 [] = [114] ∨ ws.getD 0 [] = [119]) ∧ evF (lnE ws) = 0
/-- An event behind the last row. -/
def addE (out : List (List Ev)) (e : Ev) : List (List Ev) := out.set (out.length - 1) (out.getD (out.length - 1) [] ++ [e])
instance (ws : List (List Int)) : Decidable (lnOk ws) := by unfold lnOk; infer_instance
def parS : List (List Ev) → List (List Int) → List (List Ev)
  | out, [] => out
  | out, ln :: r =>
    if 4 < ln.length ∧ ln.take 4 = [99, 111, 114, 101] then parS (out ++ [[]]) r
    else if lnOk (cutS 32 [] ln) ∧ 0 < out.length then parS (addE out (lnE (cutS 32 [] ln))) r else parS out r
def parL (l : List Int) : List (List Ev) := parS [] ((cutS 10 [] l).drop 1)
/-- The reading of a text. -/
def psC (l : List Int) : Int := if l.length ≤ 2000 then (if trF (parL l) = 0 ∧ prL (parL l) = l then 0 else 5) else 2
def psT (l : List Int) : List (List Ev) := if psC l = 0 then parL l else []

theorem dg_sign {n : Nat} (h : n < 16) : 48 ≤ dg n ∧ dg n ≤ 102 := by unfold dg; split <;> omega
theorem digS_sign {b : Nat} (hb : 2 ≤ b) (hb16 : b ≤ 16) : ∀ (f n : Nat), ∀ c ∈ digS b f n, 48 ≤ c ∧ c ≤ 102
  | 0, n => fun x hx => by simp [digS] at hx
  | f + 1, n => by
    unfold digS
    by_cases hn : n < b
    · rw [if_pos hn]; intro c hc; simp only [List.mem_singleton] at hc; rw [hc]; exact dg_sign (by omega)
    · have := Nat.mod_lt n (show 0 < b by omega)
      rw [if_neg hn]
      intro c hc
      rcases List.mem_append.1 hc with hc | hc
      · exact digS_sign hb hb16 f _ c hc
      · simp only [List.mem_singleton] at hc; rw [hc]; exact dg_sign (by omega)
theorem digL_sign {b : Nat} (hb : 2 ≤ b) (hb16 : b ≤ 16) (n : Nat) : ∀ c ∈ digL b n, 48 ≤ c ∧ c ≤ 102 := digS_sign hb hb16 _ _

theorem hexV_back {n : Nat} (h : n ≤ 999999) : hexV ([48, 120] ++ digL 16 n) = n := by
  have hl := digL_len (b := 16) (by omega) 4 n (by omega)
  have hp := digL_pos (b := 16) (by omega) n
  have hn := numL_back (b := 16) (most := 5) (n := n) (by omega) (by omega) hl
  have hn' : numL 16 5 (digL 16 n) = (n : Int) := hn
  unfold hexV
  rw [if_neg (by
    rintro (h1 | h1)
    · simp at h1; omega
    · exact h1 rfl)]
  show (if 999999 < numL 16 5 (digL 16 n) then -1 else numL 16 5 (digL 16 n)) = _
  rw [hn', if_neg (by omega)]
theorem txE_cut (e : Ev) : cutS 32 [] (txE e) = [[if e.k = 1 then 119 else 114], [48, 120] ++ digL 16 e.a.toNat, digL 10 e.v.toNat] := by
  have s1 : ∀ c ∈ ([48, 120] : List Int) ++ digL 16 e.a.toNat, c ≠ 32 := fun c hc => by
    rcases List.mem_append.1 hc with hc | hc
    · simp at hc; omega
    · have := digL_sign (b := 16) (by omega) (by omega) _ c hc; omega
  have s2 : ∀ c ∈ digL 10 e.v.toNat, c ≠ 32 := fun c hc => by have := digL_sign (b := 10) (by omega) (by omega) _ c hc; omega
  have s0 : ∀ c ∈ ([if e.k = 1 then 119 else 114] : List Int), c ≠ 32 := fun c hc => by
    simp only [List.mem_singleton] at hc
    rw [hc]; split <;> omega
  have e1 : txE e = [if e.k = 1 then 119 else 114] ++ ([32] ++ (([48, 120] ++ digL 16 e.a.toNat) ++ ([32] ++ digL 10 e.v.toNat))) := by unfold txE; simp
  rw [e1, cutS_at _ _ _ s0, cutS_at _ _ _ s1, cutS_end _ _ s2]
  simp
theorem txE_back {e : Ev} (h : evF e = 0) : lnOk (cutS 32 [] (txE e)) ∧ lnE (cutS 32 [] (txE e)) = e := by
  have hv := evF_zero h
  have hE : lnE (cutS 32 [] (txE e)) = e := by
    rw [txE_cut e]
    unfold lnE
    simp only [List.getD_cons_zero, List.getD_cons_succ]
    have ha := hexV_back (n := e.a.toNat) (by omega)
    have hl := digL_len (b := 10) (by omega) 5 e.v.toNat (by omega)
    have hn : numL 10 6 (digL 10 e.v.toNat) = (e.v.toNat : Int) := numL_back (b := 10) (most := 6) (by omega) (by omega) hl
    rw [ha, hn]
    obtain ⟨k, a, v⟩ := e
    simp only at hv ⊢
    have hk : k = 0 ∨ k = 1 := by omega
    rcases hk with rfl | rfl <;> simp <;> omega
  refine ⟨⟨by rw [txE_cut e]; rfl, ?_, by rw [hE]; exact h⟩, hE⟩
  rw [txE_cut e]
  simp only [List.getD_cons_zero]
  by_cases hk : e.k = 1
  · rw [if_pos hk]; exact .inr rfl
  · rw [if_neg hk]; exact .inl rfl
theorem txE_sign (e : Ev) : (∀ c ∈ txE e, c ≠ 10) ∧ ∀ r : List Int, (txE e ++ r).take 4 ≠ [99, 111, 114, 101] := by
  refine ⟨fun c hc => ?_, fun r h => ?_⟩
  · unfold txE at hc
    rcases List.mem_append.1 hc with hc | hc
    · simp only [List.mem_cons, List.not_mem_nil, or_false] at hc
      rcases hc with hc | hc | hc | hc
      · rw [hc]; split <;> omega
      · omega
      · omega
      · omega
    · rcases List.mem_append.1 hc with hc | hc
      · have := digL_sign (b := 16) (by omega) (by omega) _ c hc; omega
      · rcases List.mem_append.1 hc with hc | hc
        · simp at hc; omega
        · have := digL_sign (b := 10) (by omega) (by omega) _ c hc; omega
  · have := congrArg (fun l => l.getD 0 0) h
    unfold txE at this
    simp at this
    split at this <;> omega
theorem addE_last (out : List (List Ev)) (l : List Ev) (e : Ev) : addE (out ++ [l]) e = out ++ [l ++ [e]] := by
  unfold addE
  simp
theorem parS_events : ∀ (es : List Ev) (out : List (List Ev)) (l : List Ev) (r : List Int), (∀ e ∈ es, evF e = 0) → parS (out ++ [l]) (cutS 10 [] (prC es ++ r)) = parS (out ++ [l ++ es]) (cutS 10 [] r)
  | [], out, l, r, _ => by simp [prC]
  | e :: es, out, l, r, h => by
    obtain ⟨b1, b2⟩ := txE_back (h e (List.mem_cons_self ..))
    obtain ⟨s1, s2⟩ := txE_sign e
    have e1 : prC (e :: es) ++ r = txE e ++ ([10] ++ (prC es ++ r)) := by simp [prC]
    rw [e1, cutS_at _ _ _ s1, List.nil_append]
    conv => lhs; unfold parS
    rw [if_neg (fun h => by have := s2 []; rw [List.append_nil] at this; exact this h.2), if_pos ⟨b1, by simp⟩, b2, addE_last, parS_events es out _ r (fun x hx => h x (List.mem_cons_of_mem _ hx))]
    simp
theorem parS_cores : ∀ (r : List (List Ev)) (i : Nat) (out : List (List Ev)), (∀ l ∈ r, ∀ e ∈ l, evF e = 0) → parS out (cutS 10 [] (prS i r)) = out ++ r
  | [], i, out, _ => by
    simp only [prS, cutS, List.append_nil]
    unfold parS
    rw [if_neg (fun h => by simp at h), if_neg (fun h => by have := h.1.1; simp [cutS] at this)]
    rfl
  | l :: r, i, out, h => by
    have s1 : ∀ c ∈ ([99, 111, 114, 101, 32] : List Int) ++ digL 10 i, c ≠ 10 := fun c hc => by
      rcases List.mem_append.1 hc with hc | hc
      · simp at hc; omega
      · have := digL_sign (b := 10) (by omega) (by omega) _ c hc; omega
    have e1 : prS i (l :: r) = ([99, 111, 114, 101, 32] ++ digL 10 i) ++ ([10] ++ (prC l ++ prS (i + 1) r)) := by simp [prS]
    rw [e1, cutS_at _ _ _ s1, List.nil_append]
    conv => lhs; unfold parS
    rw [if_pos ⟨by simp, by simp⟩, parS_events l out [] _ (h l (List.mem_cons_self ..)), parS_cores r (i + 1) _ (fun x hx => h x (List.mem_cons_of_mem _ hx))]
    simp
theorem evs_right {l : List Ev} (h : stF l = 0) : ∀ e ∈ l, evF e = 0 := evsF_all (stF_zero h).2
/-- A right trace: its cores are right, and few (the same stands in FilMath, which wants much more). -/
theorem stsT_all : ∀ {t : List (List Ev)}, stsF t = 0 → ∀ l ∈ t, stF l = 0
  | [], _, l, h => by simp at h
  | x :: r, h, l, hl => by
    unfold stsF at h
    by_cases h0 : stF x = 0
    · rw [if_pos h0] at h
      rcases List.mem_cons.1 hl with rfl | hl
      · exact h0
      · exact stsT_all h l hl
    · rw [if_neg h0] at h; exact absurd h h0
theorem trT_zero {t : List (List Ev)} (h : trF t = 0) : 1 ≤ t.length ∧ t.length ≤ 4 ∧ ∀ l ∈ t, stF l = 0 := by
  unfold trF at h
  by_cases h1 : 1 ≤ t.length ∧ t.length ≤ 4
  · rw [if_pos h1] at h; exact ⟨h1.1, h1.2, stsT_all h⟩
  · rw [if_neg h1] at h; omega
/-- A trace is read back from its text. -/
theorem parL_back {t : List (List Ev)} (h : trF t = 0) : parL (prL t) = t := by
  obtain ⟨_, _, hall⟩ := trT_zero h
  have s1 : ∀ c ∈ ([116, 114, 97, 99, 101, 32] : List Int) ++ digL 10 t.length, c ≠ 10 := fun c hc => by
    rcases List.mem_append.1 hc with hc | hc
    · simp at hc; omega
    · have := digL_sign (b := 10) (by omega) (by omega) _ c hc; omega
  have e1 : prL t = ([116, 114, 97, 99, 101, 32] ++ digL 10 t.length) ++ ([10] ++ prS 0 t) := by simp [prL]
  unfold parL
  rw [e1, cutS_at _ _ _ s1]
  simp only [List.drop_succ_cons, List.drop_zero]
  have := parS_cores t 0 [] (fun l hl => evs_right (hall l hl))
  rw [this, List.nil_append]
end Go.Proofs.YtmdaianbhpppfaaGreatDoor
namespace Go.Proofs.YtmdaianbhpppfaaGreatDoor
open Go.RowKit

theorem l5Digit_any (c base : Int) (w : World) (h0 : 0 ≤ c) (h1 : c < 256) :
    Calls Tryz.prog 70 #[.int .u8 c, .int .i64 base] w fun e w' => e = .returned (.int .i64 (dgB base c)) ∧ w = w' := by
  by_cases a : 48 ≤ c ∧ c ≤ 57
  · obtain ⟨a1, a2⟩ := a
    have e0 : dgV c = c - 48 := by unfold dgV; rw [if_pos ⟨a1, a2⟩]
    unfold dgB
    rw [e0]
    have s1 : IntKind.u8.wrap (c - 48) = c - 48 := IntWalk.u8_in _ (by omega)
    by_cases hb : base ≤ c - 48
    · rw [if_pos hb]
      go_enter Tryz.func70, Tryz.ntmps70
      go_wp2
      go_ret
      exact ⟨rfl, rfl⟩
    · rw [if_neg hb]
      go_enter Tryz.func70, Tryz.ntmps70
      go_wp2
      go_ret
      exact ⟨rfl, rfl⟩
  · by_cases d : 97 ≤ c ∧ c ≤ 102
    · obtain ⟨d1, d2⟩ := d
      have e0 : dgV c = c - 97 + 10 := by unfold dgV; rw [if_neg a, if_pos ⟨d1, d2⟩]; omega
      unfold dgB
      rw [e0]
      have a1 : ¬ c ≤ 57 := by omega
      have a2 : 48 ≤ c := by omega
      by_cases hb : base ≤ c - 97 + 10
      · rw [if_pos hb]
        go_enter Tryz.func70, Tryz.ntmps70
        go_wp2
        go_ret
        exact ⟨rfl, rfl⟩
      · rw [if_neg hb]
        go_enter Tryz.func70, Tryz.ntmps70
        go_wp2
        go_ret
        exact ⟨rfl, rfl⟩
    · have e0 : dgV c = -1 := by unfold dgV; rw [if_neg a, if_neg d]
      have e1 : dgB base c = -1 := by unfold dgB; rw [e0]; split <;> rfl
      rw [e1]
      by_cases a1 : 48 ≤ c
      · have a2 : ¬ c ≤ 57 := by omega
        by_cases d1 : 97 ≤ c
        · have d2 : ¬ c ≤ 102 := by omega
          by_cases hb : base ≤ -1
          all_goals
            go_enter Tryz.func70, Tryz.ntmps70
            go_wp2
            go_ret
            exact ⟨rfl, rfl⟩
        · by_cases hb : base ≤ -1
          all_goals
            go_enter Tryz.func70, Tryz.ntmps70
            go_wp2
            go_ret
            exact ⟨rfl, rfl⟩
      · have d1 : ¬ 97 ≤ c := by omega
        by_cases hb : base ≤ -1
        all_goals
          go_enter Tryz.func70, Tryz.ntmps70
          go_wp2
          go_ret
          exact ⟨rfl, rfl⟩

/-- A number's signs, one behind the other: the number behind i of them. -/
theorem numV_take {base : Int} (hb : 0 ≤ base) {l : List Int} {i : Nat} (h : i < l.length) (h0 : 0 ≤ numV base 0 (l.take i)) :
    numV base 0 (l.take (i + 1)) = if dgB base l[i] < 0 then -1 else numV base 0 (l.take i) * base + dgB base l[i] := by
  rw [List.take_succ_eq_append_getElem h, numV_snoc base hb _ _ 0 (by omega), if_neg (by omega)]
theorem numV_neg {base : Int} (hb : 0 ≤ base) : ∀ (l : List Int) (a : Int), 0 ≤ a → numV base a l < 0 → numV base a l = -1
  | [], a, ha, h => by
    have : numV base a [] = a := rfl
    omega
  | x :: r, a, ha, h => by
    rw [numV_cons] at h ⊢
    by_cases hx : dgB base x < 0
    · rw [if_pos hx]
    · rw [if_neg hx] at h ⊢
      have h1 : 0 ≤ a * base := Int.mul_nonneg ha hb
      exact numV_neg hb r _ (by omega) h
theorem numV_bad {base : Int} (hb : 0 ≤ base) : ∀ (m l : List Int), numV base 0 l < 0 → numV base 0 (l ++ m) = -1
  | [], l, h => by
    rw [List.append_nil]
    exact numV_neg hb l 0 (by omega) h
  | c :: m, l, h => by
    rw [show l ++ c :: m = (l ++ [c]) ++ m by simp]
    refine numV_bad hb m (l ++ [c]) ?_
    rw [numV_snoc base hb _ _ 0 (by omega), if_pos h]
    omega
end Go.Proofs.YtmdaianbhpppfaaGreatDoor
namespace Go.Proofs.YtmdaianbhpppfaaGreatDoor
open Go.RowKit

theorem dgB_lt (base c : Int) : -1 ≤ dgB base c ∧ (0 ≤ dgB base c → dgB base c < base) := by
  unfold dgB dgV
  split
  · constructor
    · omega
    · intro h; omega
  · split
    · constructor
      · omega
      · intro; omega
    · split
      · constructor
        · omega
        · intro; omega
      · constructor
        · omega
        · intro h; omega
/-- What i signs are is small. -/
theorem numV_lt {base : Int} (hb : 0 ≤ base) (hb16 : base ≤ 16) {l : List Int} : ∀ (i : Nat), i ≤ l.length → 0 ≤ numV base 0 (l.take i) → numV base 0 (l.take i) < 16 ^ i
  | 0, _, _ => by simp [numV]
  | i + 1, hi, h => by
    by_cases h0 : numV base 0 (l.take i) < 0
    · have : l.take (i + 1) = l.take i ++ [l[i]] := List.take_succ_eq_append_getElem (by omega)
      rw [this, numV_bad hb _ _ h0] at h
      omega
    · have ih := numV_lt hb hb16 (l := l) i (by omega) (by omega)
      rw [numV_take hb (by omega) (by omega)] at h ⊢
      by_cases h1 : dgB base l[i] < 0
      · rw [if_pos h1] at h; omega
      · rw [if_neg h1]
        have h2 := (dgB_lt base l[i]).2 (by omega)
        have h3 : numV base 0 (l.take i) * base ≤ numV base 0 (l.take i) * 16 := Int.mul_le_mul_of_nonneg_left hb16 (by omega)
        rw [Int.pow_succ]
        omega

theorem numL_short {base : Int} {most : Nat} {l : List Int} (h : l.length < 1 ∨ most < l.length ∨ l.getD 0 0 = 48 ∧ 1 < l.length) : numL base most l = -1 := by unfold numL; rw [if_pos h]
theorem numL_long {base : Int} {most : Nat} {l : List Int} (h : ¬ (l.length < 1 ∨ most < l.length ∨ l.getD 0 0 = 48 ∧ 1 < l.length)) : numL base most l = numV base 0 l := by unfold numL; rw [if_neg h]

set_option maxRecDepth 100000 in
set_option maxHeartbeats 800000 in
theorem l5Number_any (l : List Int) (base : Int) (most : Nat) (w : World) (hb : 0 ≤ base) (hb16 : base ≤ 16) (hm : most ≤ 6) (b8 : B8 l) (hl : l.length ≤ maxLen) :
    Calls Tryz.prog 48 #[.string (strOfNums l), .int .i64 base, .int .i64 most] w fun e w' => e = .returned (.int .i64 (numL base most l)) ∧ w = w' := by
  unfold maxLen at hl
  have z0 := strOfNums_size l
  by_cases a : l.length < 1
  · rw [numL_short (.inl a)]
    go_enter Tryz.func48, Tryz.ntmps48
    go_wp2
    go_ret
    exact ⟨rfl, rfl⟩
  · by_cases b : most < l.length
    · rw [numL_short (.inr (.inl b))]
      go_enter Tryz.func48, Tryz.ntmps48
      go_wp2
      go_ret
      exact ⟨rfl, rfl⟩
    · have hG : l.getD 0 0 = l[0] := by simp [List.getD, show 0 < l.length by omega]
      have p1 := fun (k : IntKind) (w : World) => run_sget (P := Tryz.prog) Tryz.underlying9 b8 (i := 0) (by omega) k (z := 0) rfl w
      by_cases c : l[0] = 48 ∧ 1 < l.length
      · rw [numL_short (.inr (.inr (by rw [hG]; exact c)))]
        obtain ⟨c0, c1⟩ := c
        rw [c0] at p1
        go_enter Tryz.func48, Tryz.ntmps48
        go_wp2
        go_ret
        exact ⟨rfl, rfl⟩
      · have HE := hide (numL_long (base := base) (by rintro (h | h | h) <;> first | omega | (rw [hG] at h; exact c h)) : numL base most l = numV base 0 l)
        go_enter Tryz.func48, Tryz.ntmps48
        have c' : l[0] = 48 → ¬ 1 < l.length := fun h h' => c ⟨h, h'⟩
        clear c
        have s7 : l[0] ≠ 48 ∨ l[0] = 48 ∧ ¬ 1 < l.length := by
          by_cases h : l[0] = 48
          · exact .inr ⟨h, c' h⟩
          · exact .inl h
        rcases s7 with s7 | ⟨s7, s8⟩
        all_goals
          try rw [s7] at p1
          go_wp2
          clear p1 c' s7
          go_loop [7, 8] (fun v i => ∃ j : Nat, j ≤ l.length ∧ i = .int .i64 j ∧ v = .int .i64 (numV base 0 (l.take j)) ∧ 0 ≤ numV base 0 (l.take j)) (fun _ i => l.length - (intOf i).toNat)
          case atStart => exact ⟨0, by omega, rfl, rfl, by simp [numV]⟩
          case round =>
            obtain ⟨j, hj, rfl, rfl, hn⟩ := hrel
            have hlt := numV_lt hb hb16 j hj hn
            have hpow : (16 : Int) ^ j ≤ 16 ^ 6 := by
              have := Nat.pow_le_pow_right (n := 16) (by omega) (show j ≤ 6 by omega)
              exact_mod_cast this
            generalize hV : numV base 0 (l.take j) = V at hn hlt ⊢
            by_cases hj' : j < l.length
            · have p1 := fun (k : IntKind) (w : World) => run_sget (P := Tryz.prog) Tryz.underlying9 b8 (i := j) hj' k (z := j) rfl w
              have hg := b8.get j hj'
              have hT := numV_take hb hj' (by rw [hV]; exact hn)
              rw [hV] at hT
              obtain ⟨D, hD⟩ : ∃ D, D = dgB base l[j] := ⟨_, rfl⟩
              have hd := dgB_lt base l[j]
              have hC := fun w => l5Digit_any l[j] base w hg.1 hg.2
              rw [← hD] at hd hT
              simp only [← hD] at hC
              by_cases h0 : D < 0
              · rw [if_pos h0] at hT
                have HB := hide (numV_bad hb (l.drop (j + 1)) (l.take (j + 1)) (by rw [hT]; omega))
                go_wp2_with fail
                refine (hC _).mono ?_
                rintro e w2 ⟨rfl, rfl⟩
                go_wp2
                go_ret
                exact ⟨ret_int (by rw [HE.out, ← HB.out, List.take_append_drop]), rfl⟩
              · rw [if_neg h0] at hT
                have h3 : V * base ≤ V * 16 := Int.mul_le_mul_of_nonneg_left hb16 hn
                have h4 : 0 ≤ V * base := Int.mul_nonneg hn hb
                have h5 := hd.2 (by omega)
                have s1 : IntKind.i64.wrap (V * base) = V * base := IntWalk.i64_in _ (by omega)
                have s2 : IntKind.i64.wrap (V * base + D) = V * base + D := IntWalk.i64_in _ (by omega)
                have HT := hide hT
                clear hT hd hD
                go_wp2_with fail
                refine (hC _).mono ?_
                rintro e w2 ⟨rfl, rfl⟩
                go_wp2
                go_round
                case rel => exact ⟨j + 1, by omega, by go_num, by rw [HT.out], by rw [HT.out]; omega⟩
                case measure => simp [intOf]; omega
            · have e1 : l.take j = l := List.take_of_length_le (by omega)
              rw [e1] at hV
              go_wp2
              go_ret
              exact ⟨ret_int (by rw [HE.out, hV]), rfl⟩
end Go.Proofs.YtmdaianbhpppfaaGreatDoor
namespace Go.Proofs.YtmdaianbhpppfaaGreatDoor
open Go.RowKit

theorem numL_top {base : Int} {most : Nat} {l : List Int} (hb : 0 ≤ base) (hb16 : base ≤ 16) (hm : most ≤ 6) : -1 ≤ numL base most l ∧ numL base most l < 16777216 := by
  unfold numL
  split
  · omega
  · rename_i h
    by_cases h0 : numV base 0 l < 0
    · rw [numV_neg hb l 0 (by omega) h0]; omega
    · have e1 : l.take l.length = l := List.take_length
      have hlt := numV_lt hb hb16 (l := l) l.length (by omega) (by rw [e1]; omega)
      rw [e1] at hlt
      have hpow : (16 : Int) ^ l.length ≤ 16 ^ 6 := by
        have := Nat.pow_le_pow_right (n := 16) (by omega) (show l.length ≤ 6 by omega)
        exact_mod_cast this
      omega

set_option maxRecDepth 100000 in
set_option maxHeartbeats 800000 in
theorem l5ReadHex_any (l : List Int) (w : World) (b8 : B8 l) (hl : l.length ≤ maxLen) :
    Calls Tryz.prog 47 #[.string (strOfNums l)] w fun e w' => e = .returned (.int .i64 (hexV l)) ∧ w = w' := by
  have hl' := hl
  unfold maxLen at hl'
  have z0 := strOfNums_size l
  by_cases a : l.length < 3
  · have e1 : hexV l = -1 := by unfold hexV; rw [if_pos (.inl a)]
    rw [e1]
    go_enter Tryz.func47, Tryz.ntmps47
    go_wp2
    go_ret
    exact ⟨rfl, rfl⟩
  · have p1 := fun (k : IntKind) (w : World) => run_sto (P := Tryz.prog) Tryz.underlying9 (l := l) (j := 2) (by omega) k (z := 2) rfl w
    have q1 : ((strOfNums (l.take 2)).toList == ([48, 120] : List UInt8)) = (l.take 2 == [48, 120]) := seq_lit (b8.take 2) (m := [48, 120]) (fun x hx => by simp at hx; omega) rfl
    by_cases b : l.take 2 = [48, 120]
    · rw [beq_iff_eq.2 b] at q1
      have p2 := fun (k : IntKind) (w : World) => run_sfrom (P := Tryz.prog) Tryz.underlying9 (l := l) (i := 2) (by omega) k (z := 2) rfl w
      have hC : ∀ w, Calls Tryz.prog 48 #[.string (strOfNums (l.drop 2)), .int .i64 16, .int .i64 5] w fun e w' => e = .returned (.int .i64 (numL 16 5 (l.drop 2))) ∧ w = w' := fun w => l5Number_any (l.drop 2) 16 5 w (by omega) (by omega) (by omega) (b8.drop 2) (by simp only [List.length_drop, maxLen]; omega)
      have e1 : hexV l = if 999999 < numL 16 5 (l.drop 2) then -1 else numL 16 5 (l.drop 2) := by unfold hexV; rw [if_neg (by rintro (h | h); exact a h; exact h b)]
      generalize numL 16 5 (l.drop 2) = V at e1 hC
      clear b
      go_enter Tryz.func47, Tryz.ntmps47
      by_cases h9 : 999999 < V
      · rw [e1, if_pos h9]
        go_wp2_with fail
        refine (hC _).mono ?_
        rintro e w2 ⟨rfl, rfl⟩
        go_wp2
        go_ret
        exact ⟨rfl, rfl⟩
      · rw [e1, if_neg h9]
        go_wp2_with fail
        refine (hC _).mono ?_
        rintro e w2 ⟨rfl, rfl⟩
        go_wp2
        go_ret
        exact ⟨rfl, rfl⟩
    · rw [beq_eq_false_iff_ne.2 b] at q1
      have e1 : hexV l = -1 := by unfold hexV; rw [if_pos (.inr b)]
      rw [e1]
      go_enter Tryz.func47, Tryz.ntmps47
      go_wp2
      go_ret
      exact ⟨rfl, rfl⟩

/-- An answer with a number: what is read, or the code 5. -/
def inC (n : Int) : Int := if n < 0 then 5 else 0
def inV (n : Int) : Int := if n < 0 then 0 else n
abbrev intV (c n : Int) : Value := .agg #[.int .i64 c, .int .i64 n]
theorem ReadHex_spec (l : List Int) (w : World) (b8 : B8 l) (hl : l.length ≤ maxLen) :
    Calls Tryz.prog 19 #[.string (strOfNums l)] w fun e w' => e = .returned (intV (inC (hexV l)) (inV (hexV l))) ∧ Below w.heap.size w w' := by
  have hC := fun w => l5ReadHex_any l w b8 hl
  generalize hexV l = V at hC
  unfold inC inV
  go_enter Tryz.func19, Tryz.ntmps19
  by_cases h : V < 0
  · rw [if_pos h, if_pos h]
    go_wp2_with fail
    refine (hC _).mono ?_
    rintro e w2 ⟨rfl, rfl⟩
    go_wp2
    go_returns
    exact ⟨rfl, by go_grown⟩
  · rw [if_neg h, if_neg h]
    go_wp2_with fail
    refine (hC _).mono ?_
    rintro e w2 ⟨rfl, rfl⟩
    go_wp2
    go_returns
    exact ⟨rfl, by go_grown⟩
theorem NumberOf_spec (l : List Int) (w : World) (b8 : B8 l) (hl : l.length ≤ maxLen) :
    Calls Tryz.prog 21 #[.string (strOfNums l)] w fun e w' => e = .returned (intV (inC (numL 10 6 l)) (inV (numL 10 6 l))) ∧ Below w.heap.size w w' := by
  have hC : ∀ w, Calls Tryz.prog 48 #[.string (strOfNums l), .int .i64 10, .int .i64 6] w fun e w' => e = .returned (.int .i64 (numL 10 6 l)) ∧ w = w' := fun w => l5Number_any l 10 6 w (by omega) (by omega) (by omega) b8 hl
  generalize numL 10 6 l = V at hC
  unfold inC inV
  go_enter Tryz.func21, Tryz.ntmps21
  by_cases h : V < 0
  · rw [if_pos h, if_pos h]
    go_wp2_with fail
    refine (hC _).mono ?_
    rintro e w2 ⟨rfl, rfl⟩
    go_wp2
    go_returns
    exact ⟨rfl, by go_grown⟩
  · rw [if_neg h, if_neg h]
    go_wp2_with fail
    refine (hC _).mono ?_
    rintro e w2 ⟨rfl, rfl⟩
    go_wp2
    go_returns
    exact ⟨rfl, by go_grown⟩
end Go.Proofs.YtmdaianbhpppfaaGreatDoor
namespace Go.Proofs.YtmdaianbhpppfaaGreatDoor
open Go.RowKit

def marksL : List Int := [48, 49, 50, 51, 52, 53, 54, 55, 56, 57, 97, 98, 99, 100, 101, 102]
theorem marks_cut : ∀ n, n < 16 → (marksL.drop n).take (n + 1 - n) = [dg n] := by decide
/-- One sign of the sixteen. -/
theorem run_mark {P : Program} {t : TypeId} (ht : P.underlying t = some .string) {n : Nat} (h : n < 16) {z z' : Int} (hz : z = n) (hz' : z' = (n : Int) + 1) (k k' : IntKind) (w : World) :
    (Instr.slice t (.string { data := #[48, 49, 50, 51, 52, 53, 54, 55, 56, 57, 97, 98, 99, 100, 101, 102] }) (some (.int k z)) (some (.int k' z')) none).run P w = .ok (.string (strOfNums [dg n])) w := by
  have := run_scut (P := P) ht (l := marksL) (i := n) (j := n + 1) (by omega) (by show n + 1 ≤ 16; omega) k k' (z := z) (z' := z') hz (by rw [hz']; rfl) w
  rw [marks_cut n h] at this
  exact this

set_option maxRecDepth 100000 in
set_option maxHeartbeats 800000 in
theorem l5Hex_any : ∀ (f n : Nat) (w : World), n < f → n < 16 ^ 15 →
    Calls Tryz.prog 46 #[.int .i64 n] w fun e w' => e = .returned (.string (strOfNums (digL 16 n))) ∧ ∃ m, w' = w.drewN m
  | 0, n, w, h, _ => by omega
  | f + 1, n, w, h, h' => by
    by_cases hn : n < 16
    · rw [digL_few hn]
      have s0 : IntKind.i64.wrap ((n : Int) + 1) = (n : Int) + 1 := IntWalk.i64_in _ (by omega)
      have p1 := fun (k k' : IntKind) (w : World) => run_mark (P := Tryz.prog) Tryz.underlying9 hn rfl rfl k k' w
      go_enter Tryz.func46, Tryz.ntmps46
      go_wp2
      go_ret
      exact ⟨rfl, 0, rfl⟩
    · have hd : n / 16 < n := Nat.div_lt_self (by omega) (by omega)
      have hm := Nat.mod_lt n (show 0 < 16 by omega)
      have IH := fun w => l5Hex_any f (n / 16) w (by omega) (by omega)
      have e16 : ((n / 16 : Nat) : Int) = (n : Int) / 16 := by omega
      rw [e16] at IH
      have hl := digL_len (b := 16) (by omega) 14 (n / 16) (by omega)
      have HE := hide (digL_more (by omega) hn)
      have p1 := fun (k k' : IntKind) (w : World) => run_mark (P := Tryz.prog) Tryz.underlying9 hm (z := (n : Int) % 16) (z' := (n : Int) % 16 + 1) rfl rfl k k' w
      have p2 := fun (w : World) => run_sadd (P := Tryz.prog) (l := digL 16 (n / 16)) (m := [dg (n % 16)]) (by simp only [List.length_cons, List.length_nil]; omega) w
      rw [← HE.out] at p2
      generalize digL 16 (n / 16) = D at IH p2
      generalize digL 16 n = E at p2 ⊢
      have s1 : IntKind.i64.wrap ((n : Int) / 16) = (n : Int) / 16 := IntWalk.i64_in _ (by omega)
      have s0 : IntKind.i64.wrap ((n : Int) % 16 + 1) = (n : Int) % 16 + 1 := IntWalk.i64_in _ (by omega)
      go_enter Tryz.func46, Tryz.ntmps46
      go_wp2
      go_quiet ((go_at_call 46; exact Calls.quiet_of (IH _)))
      go_wp2
      go_ret
      exact ⟨rfl, _, rfl⟩
end Go.Proofs.YtmdaianbhpppfaaGreatDoor
