/- Strings as rows of numbers: plain lemmas; no function of the program is named here. -/
import Derived.Test.YtmdaianbhpppfaaDoorBase
import Derived.Laws.Strings3
import Derived.Laws.DeepStrings4
import Derived.Laws.Concat
namespace Go.Proofs.YtmdaianbhpppfaaDoor
open Go.RowKit

/-- The numbers of a string. -/
def numsOf (s : ByteArray) : List Int := s.data.toList.map fun x => (x.toNat : Int)
theorem numsOf_B8 (s : ByteArray) : B8 (numsOf s) := fun x hx => by
  obtain ⟨y, _, rfl⟩ := List.mem_map.1 hx
  have := y.toNat_lt
  omega
theorem numsOf_str (s : ByteArray) : strOfNums (numsOf s) = s := by
  apply ByteArray.ext
  unfold strOfNums numsOf
  rw [List.map_map]
  have : ((fun n : Int => UInt8.ofNat n.toNat) ∘ fun x : UInt8 => (x.toNat : Int)) = id := by
    funext x
    simp
  rw [this, List.map_id]
theorem strS_append (l m : List Int) : strOfNums l ++ strOfNums m = strOfNums (l ++ m) := by
  unfold strOfNums
  rw [ByteArray.mk_append_mk, List.map_append]
theorem strS_cut (l : List Int) (i j : Nat) : (strOfNums l).extract i j = strOfNums ((l.drop i).take (j - i)) := by
  unfold strOfNums
  rw [ByteArray.extract_mk, List.map_take, List.map_drop]
theorem strS_get {l : List Int} (b : B8 l) (i : Nat) (h : i < (strOfNums l).size) (h' : i < l.length) : (((strOfNums l)[i]'h).toNat : Int) = l[i] := by
  have hq : i < (l.map fun n => UInt8.ofNat n.toNat).toArray.size := by simpa using h'
  have e0 : (strOfNums l)[i]'h = (l.map fun n => UInt8.ofNat n.toNat).toArray[i]'hq := rfl
  have e1 : (l.map fun n => UInt8.ofNat n.toNat).toArray[i]'hq = UInt8.ofNat (l[i]).toNat := by rw [List.getElem_toArray, List.getElem_map]
  have e := e0.trans e1
  rw [e]
  have := b.get i h'
  simp only [UInt8.toNat_ofNat']
  omega

section
variable {P : Program}
theorem run_sadd {l m : List Int} (h : l.length + m.length ≤ 9223372036854775807) (w : World) : (Op.stringOp .add (strOfNums l) (strOfNums m)).run P w = .ok (.string (strOfNums (l ++ m))) w := by
  rw [run_string_add_sum w _ _ (by rw [strOfNums_size, strOfNums_size]; exact h), strS_append]
theorem run_sget {t : TypeId} (ht : P.underlying t = some .string) {l : List Int} (b : B8 l) {i : Nat} (h : i < l.length) (k : IntKind) {z : Int} (hz : z = i) (w : World) : (Instr.index t (.string (strOfNums l)) (.int k z)).run P w = .ok (.int .u8 l[i]) w := by
  subst hz
  rw [run_index_string w t _ k _ ht, dif_pos (by rw [strOfNums_size]; omega)]
  have := strS_get b i (by rw [strOfNums_size]; exact h) h
  simp only [Int.toNat_natCast, this]
theorem run_slen {t : TypeId} (ht : P.underlying t = some .string) (ty : TypeId) (l : List Int) (w : World) : (Builtin.len_ #[t] ty #[.string (strOfNums l)]).run P w = .ok (goInt l.length) w := by
  rw [run_len_string w t ty _ ht, strOfNums_size]
theorem run_sto {t : TypeId} (ht : P.underlying t = some .string) {l : List Int} {j : Nat} (h : j ≤ l.length) (k : IntKind) {z : Int} (hz : z = j) (w : World) : (Instr.slice t (.string (strOfNums l)) none (some (.int k z)) none).run P w = .ok (.string (strOfNums (l.take j))) w := by
  subst hz
  rw [run_slice_string_to_if w t _ k _ ht, if_pos (by rw [strOfNums_size]; omega), strS_cut]
  simp
theorem run_sfrom {t : TypeId} (ht : P.underlying t = some .string) {l : List Int} {i : Nat} (h : i ≤ l.length) (k : IntKind) {z : Int} (hz : z = i) (w : World) : (Instr.slice t (.string (strOfNums l)) (some (.int k z)) none none).run P w = .ok (.string (strOfNums (l.drop i))) w := by
  subst hz
  rw [run_slice_string_from_if w t _ k _ ht, if_pos (by rw [strOfNums_size]; omega), strS_cut, strOfNums_size]
  rw [Int.toNat_natCast, List.take_of_length_le (by simp)]
theorem run_scut {t : TypeId} (ht : P.underlying t = some .string) {l : List Int} {i j : Nat} (h : i ≤ j) (h' : j ≤ l.length) (k k' : IntKind) {z z' : Int} (hz : z = i) (hz' : z' = j) (w : World) : (Instr.slice t (.string (strOfNums l)) (some (.int k z)) (some (.int k' z')) none).run P w = .ok (.string (strOfNums ((l.drop i).take (j - i)))) w := by
  subst hz hz'
  rw [run_slice_string w t _ k k' _ _ ht (by omega) (by omega) (by rw [strOfNums_size]; omega), strS_cut]
  rfl
/-- One byte laid in a row of its own, and turned into a string (now, or later). -/
theorem run_sbyte {src dst e ty : TypeId} (hs : P.underlying src = some (.slice e)) (he : P.underlying e = some (.int .u8)) (hd : P.underlying dst = some .string) (x : Int) (W W' : World)
    (hb : Below (W.alloc (Obj.cells #[.int .u8 x] ty)).heap.size (W.alloc (Obj.cells #[.int .u8 x] ty)) W') :
    (convert src dst (.slice (some ⟨W.heap.size, 0, none⟩) 1 1)).run P W' = .ok (.string (strOfNums [x])) W' := by
  refine run_str (l := [x]) (B := W.heap.size + 1) 1 src e hs he (fun _ => ⟨W.heap.size, 0, rfl, by omega, fun i hi => ?_⟩) dst hd
  have hi0 : i = 0 := by simp at hi; omega
  subst hi0
  rw [hb.cell (p := ⟨W.heap.size, 0 + 0, none⟩) (by simp), World.cell?_alloc_at (w := W) _ ty W.heap.size (0 + 0) rfl]
  rfl
end
/-- Two strings are one just if their rows are. -/
theorem seq_str {l m : List Int} (h : B8 l) (h' : B8 m) : ((strOfNums l).toList == (strOfNums m).toList) = (l == m) := by
  by_cases e : l = m
  · subst e; simp
  · have h3 : ¬ (strOfNums l).toList = (strOfNums m).toList := by
      intro e2
      rw [ByteArray.toList_eq, ByteArray.toList_eq] at e2
      exact e (str_inj h h' (ByteArray.ext (Array.toList_inj.1 e2)))
    rw [beq_eq_false_iff_ne.2 h3, beq_eq_false_iff_ne.2 e]
/-- The same, the second written out. -/
theorem seq_lit {l m : List Int} (h : B8 l) (h' : B8 m) {u : List UInt8} (hu : u = m.map fun n => UInt8.ofNat n.toNat) : ((strOfNums l).toList == u) = (l == m) := by
  rw [← seq_str h h', hu]
  congr 1
  rw [ByteArray.toList_eq]
  rfl
end Go.Proofs.YtmdaianbhpppfaaDoor
