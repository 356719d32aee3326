/- A strings.Builder of the call's own: a string written behind what it holds; what it holds. The library's own text is walked. -/
import Derived.Test.YtmdaianbhpppfaaGreatDoorShelf
import Derived.Test.YtmdaianbhpppfaaGreatDoorGTxA
import Derived.Shelf.Strings.Builder1
import Derived.Shelf.Strings.BuilderK
import Derived.Lib.AppendIntMem
import Derived.StillTailTactics
import Derived.Handy
import Derived.Outline
import Derived.WalkLawsBesides
namespace Go.Proofs.YtmdaianbhpppfaaGreatDoor
open Go.RowKit

/-- Block B is a builder of the call's own that holds these bytes. -/
def SB (B : Nat) (l : List Int) (w : World) : Prop := Lib.IsBuilderF 49 5 B B (l.map fun x => Value.int .u8 x) w
theorem strCells_nums {l : List Int} (h : B8 l) : Lib.strCells (strOfNums l) = l.map fun x => Value.int .u8 x := by
  rw [Lib.strCells, strOfNums_data, List.map_map]
  refine List.map_congr_left fun x hx => ?_
  have := h x hx
  simp only [Function.comp, UInt8.toNat_ofNat']
  congr 1
  omega
theorem SB.new (w : World) : SB w.heap.size [] (w.alloc (.cells #[.pointer none, .slice none 0 0] 49)) :=
  Lib.IsBuilderF.of (Lib.fresh_isBuilder 49 5 w)
theorem SB.lt {B : Nat} {l : List Int} {w : World} (h : SB B l w) : B < w.heap.size := h.elim (fun x => x.lt) (fun x => x.lt)
theorem bldAt_kept {T e : TypeId} {B b : Nat} {p : Value} {bs : List Value} {w w' : World} (h : Lib.BuilderAtF T e B b p bs w) (hk : Below w.heap.size w w') : Lib.BuilderAtF T e B b p bs w' := by
  have hlt := h.lt
  obtain ⟨hB, v, hb, hown, hne⟩ := h
  exact ⟨hB, v, (hk.block b hlt).trans hb, hown.kept (row := none) ⟨hk.os, hk.tape, hk.output, hk.size, fun k hk' _ => hk.block k hk'⟩ (by cases hv : v.ownBlock <;> simp), hne⟩
theorem SB.kept {B : Nat} {l : List Int} {w w' : World} (h : SB B l w) (hb : Below w.heap.size w w') : SB B l w' := h.elim (fun x => .inl (bldAt_kept x hb)) (fun x => .inr (bldAt_kept x hb))
theorem info_bld : (Tryz.prog.info? 49).map (·.size) = some 2 := by kernel_rfl
theorem info_byte1 : (Tryz.prog.info? 5).map (fun i => (i.zero, i.size, i.bytes)) = some (some (.int .u8 0), 1, 1) := by kernel_rfl
theorem lies_bld : liesAt Tryz.prog Tryz.prog.depth 49 (2 / Tryz.prog.cellsOf 49) 0 49 1 = true := by kernel_rfl

set_option maxHeartbeats 1000000 in
set_option maxRecDepth 100000 in
theorem bldUsed_any (b : Nat) (w : World) (h0 : w.cell? ⟨b, 0, none⟩ = some (.pointer (some ⟨b, 0, none⟩))) :
    Calls Tryz.prog 53 #[.pointer (some ⟨b, 0, none⟩)] w fun e w' => e = .returned (.tuple #[]) ∧ w' = w := by
  obtain ⟨j, hj, _⟩ := Option.map_eq_some_iff.1 info_bld
  have q := Lib.run_neq_ptr_same (P := Tryz.prog) w ⟨b, 0, none⟩ Tryz.underlying47 hj
  clear hj
  go_enter Tryz.func53, Tryz.ntmps53
  go_wp2
  go_end0
  exact ⟨rfl, rfl⟩
set_option maxHeartbeats 1000000 in
set_option maxRecDepth 100000 in
theorem bldFresh_any (b : Nat) (w : World) (h0 : w.cell? ⟨b, 0, none⟩ = some (.pointer none)) (hsh : w.shape? b = some (49, 2)) (hfz : w.frozen? ⟨b, 0, none⟩ = false) :
    Calls Tryz.prog 53 #[.pointer (some ⟨b, 0, none⟩)] w fun e w' => e = .returned (.tuple #[]) ∧ w' = w.setCell ⟨b, 0, none⟩ (.pointer (some ⟨b, 0, none⟩)) := by
  obtain ⟨j, hj, hjs⟩ := Option.map_eq_some_iff.1 info_bld
  have q1 := Lib.run_to_unsafe (P := Tryz.prog) w ⟨b, 0, none⟩ Tryz.underlying47 Tryz.underlying95 hj (by rw [hjs]; decide) hsh (Nat.zero_lt_succ 1)
  have q2 := Lib.run_from_unsafe (P := Tryz.prog) w ⟨b, 0, none⟩ Tryz.underlying95 Tryz.underlying47 hj hsh lies_bld
  go_enter Tryz.func53, Tryz.ntmps53
  go_wp2
  rw [run_callFunc_extern Tryz.func71 (by kernel_rfl) (by kernel_rfl) (by kernel_rfl) (e := Extern.AbiNoEscape.same) (by kernel_rfl)]
  rw [Lib.run_noEscape]
  simp only [Result.andThen]
  rw [Oper.upon_value]
  go_wp2
  go_end0
  exact ⟨rfl, rfl⟩
theorem copyCheck_any (B : Nat) (bs : List Value) (w : World) (h : Lib.IsBuilderF 49 5 B B bs w) :
    Calls Tryz.prog 53 #[.pointer (some ⟨B, 0, none⟩)] w fun e w' => e = .returned (.tuple #[]) ∧ Lib.BuilderAtF 49 5 B B (.pointer (some ⟨B, 0, none⟩)) bs w' ∧ Below B w w' := by
  rcases h with h | h
  · refine (bldFresh_any B w h.cell0 h.shape h.frozen0).mono ?_
    rintro e w' ⟨rfl, rfl⟩
    exact ⟨rfl, h.used _, (Below.refl B w).setCell (p := ⟨B, 0, none⟩) (Nat.le_refl _) _⟩
  · refine (bldUsed_any B w h.cell0).mono ?_
    rintro e w' ⟨rfl, rfl⟩
    exact ⟨rfl, h, Below.refl B _⟩
set_option maxHeartbeats 1000000 in
set_option maxRecDepth 100000 in
theorem WriteString_any (B : Nat) (l m : List Int) (w : World) (h : SB B l w) (hm : B8 m) (hlen : l.length + m.length ≤ 1048576) :
    Calls Tryz.prog 27 #[.pointer (some ⟨B, 0, none⟩), .string (strOfNums m)] w fun e w' => e = .returned (.tuple #[.int .i64 m.length, .nilIface]) ∧ SB B (l ++ m) w' ∧ Below B w w' := by
  have hlt0 := h.lt
  obtain ⟨i0, hi, hz0, hz1, hz2⟩ := info_parts info_byte1
  have z0 := strOfNums_size m
  go_enter Tryz.func27, Tryz.ntmps27
  go_wp2_with fail
  refine (copyCheck_any B _ _ h).mono ?_
  rintro e w1 ⟨rfl, h1, hb1⟩
  obtain ⟨hB, v, hbk, hown, hne⟩ := h1
  have c0 : w1.cell? ⟨B, 0, none⟩ = some (.pointer (some ⟨B, 0, none⟩)) := by rw [Lib.cell_of_heap hbk]; rfl
  have c1 : w1.cell? ⟨B, 1, none⟩ = some v := by rw [Lib.cell_of_heap hbk]; rfl
  rw [List.length_map] at hown
  go_wp2_with (at_builtin; refine Lib.wpList_append_own_stringF _ rfl _ _ 22 9 rfl B 5 i0 Tryz.underlying22 Tryz.underlying9 hi hz0 hz1 hz2 _ _ _ rfl hown (strOfNums m) rfl ?c3 ?c4 ?c5 ?_)
  case c3 => rw [z0]; unfold maxLen; omega
  case c4 => rw [z0]; omega
  case c5 => have := hb1.size; omega
  intro v' w2 hown' hgrow _
  have hlt : B < w1.heap.size := by have := hb1.size; omega
  have hb2 : w2.heap[B]? = some (.cells #[.pointer (some ⟨B, 0, none⟩), v] 49 (0, 0)) := by
    rw [hgrow.block B hlt (fun e => hne e.symm)]
    exact hbk
  have d0 : w2.cell? ⟨B, 0, none⟩ = some (.pointer (some ⟨B, 0, none⟩)) := by rw [Lib.cell_of_heap hb2]; rfl
  have d1 : w2.cell? ⟨B, 1, none⟩ = some v := by rw [Lib.cell_of_heap hb2]; rfl
  have f1 : w2.frozen? ⟨B, 1, none⟩ = false := Lib.frozen_of_heap hb2 1
  obtain ⟨ao, n', cap, rfl⟩ : ∃ ao n' cap, v' = .slice ao n' cap := by
    rcases hown'.2 with ⟨hv, _⟩ | ⟨g, cap, cur, fz, hv, _⟩
    · exact ⟨_, _, _, hv⟩
    · exact ⟨_, _, _, hv⟩
  go_wp2
  go_ret2
  refine ⟨rfl, .inr ?_, (hb1.grown hgrow (by have := hb1.size; omega) (fun k hk => (hown.lt k hk).1)).setCell (p := ⟨B, 1, none⟩) hB _⟩
  rw [List.map_append, ← strCells_nums hm]
  refine Lib.BuilderAtF.put (T := 49) (e := 5) hB hb2 (by simpa [Lib.strCells_length, z0] using hown') (by decide)
theorem String_any (B : Nat) (l : List Int) (w : World) (h : SB B l w) (hl : B8 l) :
    Calls Tryz.prog 29 #[.pointer (some ⟨B, 0, none⟩)] w fun e w' => e = .returned (.string (strOfNums l)) ∧ Below B w w' := by
  have h' : Lib.IsBuilderF 49 5 B B (Lib.byteCells (strOfNums l).data.toList) w := by
    rw [← Lib.strCells_eq, strCells_nums hl]
    exact h
  refine (Tryz.Builder_String_any_k B B _ w h' (Nat.le_of_lt h.lt)).mono ?_
  rintro e w' ⟨rfl, _, hb, _⟩
  exact ⟨rfl, hb⟩
end Go.Proofs.YtmdaianbhpppfaaGreatDoor
