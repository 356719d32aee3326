/- What the laws' walks rest upon, part 4. -/
import Derived.Test.YtnnfkmjhaljplaaGreatDoorM02
import Derived.Test.YtnnfkmjhaljplaaGreatDoorM03
import Derived.Test.YtnnfkmjhaljplaaGreatDoorM01
import Derived.Maps.AppendAt
import Derived.Maps.Range
import Derived.OwnWalk
import Derived.RegionTactic
import Derived.Deep.RegionWith
import Derived.Deep.RegionHeld3
import Derived.IntWalk
import Derived.Deep.DeepCutAuto
import Derived.OneCell
namespace Go.Proofs.YtnnfkmjhaljplaaGreatDoor
open Go.RowKit
set_option maxHeartbeats 400000 in
theorem l1Crc_any (l : List Int) (A : Option Addr) (c : Nat) (w : World) (hm : l.length ≤ 4000) (hR : Rd .u8 w w.heap.size A l) (b8 : B8 l) :
    Calls Tryz.prog 141 #[.slice A l.length c] w fun e w' => e = .returned (.int .i64 ((crcS 4294967295 l ^^^ 4294967295 : Nat) : Int)) ∧ w = w' := by
  go_enter Tryz.func141, Tryz.ntmps141
  go_wp2
  go_loop [3, 4] (fun v i => ∃ j : Nat, j ≤ l.length ∧ i = .int .i64 j ∧ v = .int .i64 ((crcS 4294967295 (l.take j) : Nat) : Int)) (fun _ i => l.length - (intOf i).toNat)
  case atStart => exact ⟨0, by omega, rfl, rfl⟩
  case round =>
    obtain ⟨j, hj, rfl, rfl⟩ := hrel
    obtain ⟨s, hs⟩ : ∃ s, s = crcS 4294967295 (l.take j) := ⟨_, rfl⟩
    have hs32 : s < 4294967296 := by rw [hs]; exact crcS_lt _ _ (b8.take _) (by omega)
    rw [← hs]
    have HS := hide hs
    clear hs
    by_cases hlt : j < l.length
    · obtain ⟨b, off, rfl, hbb, hc⟩ := hR.get hlt
      obtain ⟨hb0, hb1⟩ := b8.get j hlt
      obtain ⟨y, hy⟩ : ∃ y, y = s ^^^ (l[j]).toNat := ⟨_, rfl⟩
      have hy32 : y < 4294967296 := by rw [hy]; exact byte_xor_lt hs32 hb1
      have hx : bits .xor .i64 (s : Int) l[j] = (y : Int) := by
        rw [hy, show l[j] = ((l[j].toNat : Nat) : Int) by omega]
        exact i64_xor_nat _ _ hs32 (by omega)
      have HY := hide hy
      clear hy
      go_wp2
      go_loop [3, 5] (fun v i => ∃ k : Nat, k ≤ 8 ∧ i = .int .i64 k ∧ v = .int .i64 ((bstI k y : Nat) : Int)) (fun _ i => 8 - (intOf i).toNat)
      case atStart => exact ⟨0, by omega, rfl, rfl⟩
      case round =>
        obtain ⟨k, hk, rfl, rfl⟩ := hrel
        obtain ⟨z, hz⟩ : ∃ z, z = bstI k y := ⟨_, rfl⟩
        have hz32 : z < 4294967296 := by rw [hz]; exact bstI_lt hy32 k
        rw [← hz]
        have HZ := hide hz
        clear hz
        by_cases h8 : k < 8
        · by_cases ho : z % 2 = 1
          · have hx2 := i64_bst z hz32 ho
            have ht : ((z : Int) % 2 == 1) = true := by simp; omega
            clear ho
            go_wp2
            go_round
            case rel => exact ⟨k + 1, by omega, by go_num, by rw [HZ.out]; rfl⟩
            case measure => simp [intOf]; omega
          · have hx2 := bst_of_even z ho
            have ht : ((z : Int) % 2 == 1) = false := by simp; omega
            clear ho
            go_wp2
            go_round
            case rel => exact ⟨k + 1, by omega, by go_num, by rw [HZ.out]; rfl⟩
            case measure => simp [intOf]; omega
        · obtain rfl : k = 8 := by omega
          go_wp2
          go_round
          case rel => exact ⟨j + 1, by omega, by go_num, by rw [HZ.out, HY.out, HS.out, crcS_take l _ j hlt]; rfl⟩
          case measure => simp [intOf]; omega
    · have hx : bits .xor .i64 (s : Int) 4294967295 = ((s ^^^ 4294967295 : Nat) : Int) := i64_xor_nat _ 4294967295 hs32 (by decide)
      go_wp2
      go_ret
      obtain rfl : j = l.length := by omega
      rw [HS.out, List.take_length]
      exact ⟨rfl, rfl⟩
/-- The program's table of steps lies in memory as it was laid. -/
def Tab (w : World) : Prop := ∀ i, i < 16 → w.cell? ⟨3, i, none⟩ = some (.int .u32 (tab i : Int))
theorem Tab.lt {w : World} (h : Tab w) : 3 < w.heap.size := block_lt_of_cell (h 0 (by omega))
theorem Tab.below {w w' : World} (h : Tab w) (hb : Below w.heap.size w w') : Tab w' := fun i hi => (hb.cell (p := ⟨3, i, none⟩) h.lt).trans (h i hi)
theorem Tab.alloc {w : World} (h : Tab w) (o : Obj) : Tab (w.alloc o) := h.below ((Below.refl _ _).alloc (Nat.le_refl _) o)
set_option maxHeartbeats 400000 in
theorem implCrc_any (l : List Int) (A : Option Addr) (c : Nat) (w : World) (hm : l.length ≤ 1048576) (hR : Rd .u8 w w.heap.size A l) (b8 : B8 l) (hT : Tab w) :
    Calls Tryz.prog 200 #[.slice A l.length c] w fun e w' => e = .returned (.agg #[.int .i64 (crcC l), .int .i64 (crcV l)]) ∧ Below w.heap.size w w' := by
  by_cases h4 : l.length ≤ 4000
  · rw [(crc_in h4).1, (crc_in h4).2]
    have HT := hide hT
    have hT0 := hT.lt
    clear hT
    go_enter Tryz.func200, Tryz.ntmps200
    go_wp2
    go_loop [3, 12] (fun v i => ∃ j : Nat, j ≤ l.length ∧ i = .int .i64 j ∧ v = .int .u32 ((crcS 4294967295 (l.take j) : Nat) : Int)) (fun _ i => l.length - (intOf i).toNat)
    case atStart => exact ⟨0, by omega, rfl, rfl⟩
    case round =>
      obtain ⟨j, hj, rfl, rfl⟩ := hrel
      obtain ⟨s, hs⟩ : ∃ s, s = crcS 4294967295 (l.take j) := ⟨_, rfl⟩
      have hs32 : s < 4294967296 := by rw [hs]; exact crcS_lt _ _ (b8.take _) (by omega)
      rw [← hs]
      have HS := hide hs
      clear hs
      by_cases hlt : j < l.length
      · obtain ⟨b, off, rfl, hbb, hc⟩ := hR.get hlt
        obtain ⟨hb0, hb1⟩ := b8.get j hlt
        obtain ⟨y, hy⟩ : ∃ y, y = s ^^^ (l[j]).toNat := ⟨_, rfl⟩
        have hy32 : y < 4294967296 := by rw [hy]; exact byte_xor_lt hs32 hb1
        have hx : bits .xor .u32 (s : Int) l[j] = (y : Int) := by
          rw [hy, show l[j] = ((l[j].toNat : Nat) : Int) by omega]
          exact u32_xor_nat _ _ hs32 (by omega)
        have HY := hide hy
        clear hy
        have t1 := HT.out (y % 16) (by omega)
        obtain ⟨z, hz⟩ : ∃ z, z = nib y := ⟨_, rfl⟩
        have hz32 : z < 4294967296 := by rw [hz]; exact nib_lt hy32
        have hx2 := u32_nib y hy32
        rw [← hz] at hx2
        have t2 := HT.out (z % 16) (by omega)
        obtain ⟨v, hv⟩ : ∃ v, v = nib z := ⟨_, rfl⟩
        have hx3 := u32_nib z hz32
        rw [← hv] at hx3
        have HZ := hide hz
        have HV := hide hv
        clear hz hv
        go_wp2
        go_round
        case rel => exact ⟨j + 1, by omega, by go_num, by rw [HV.out, HZ.out, HY.out, HS.out, crcS_take l _ j hlt, bst8_nib]⟩
        case measure => simp [intOf]; omega
      · have hx : bits .xor .u32 (s : Int) 4294967295 = ((s ^^^ 4294967295 : Nat) : Int) := u32_xor_nat _ 4294967295 hs32 (by decide)
        have hxl : ((s ^^^ 4294967295 : Nat) : Int) < 4294967296 := by
          have : s ^^^ 4294967295 < 2 ^ 32 := Nat.xor_lt_two_pow hs32 (by decide)
          omega
        go_wp2
        go_returns
        obtain rfl : j = l.length := by omega
        rw [HS.out, List.take_length]
        exact ⟨rfl, by go_grown⟩
  · rw [(crc_out h4).1, (crc_out h4).2]
    clear hT
    go_enter Tryz.func200, Tryz.ntmps200
    go_wp2
    go_returns
    exact ⟨rfl, by go_grown⟩
end Go.Proofs.YtnnfkmjhaljplaaGreatDoor
namespace Go.Proofs.YtnnfkmjhaljplaaGreatDoor
open Go.RowKit
/-- At the head of the loop's rounds: what is laid, and what is left of the number. -/
def PutRel (n : Int) (base : Nat) (q v : Value) (wr : World) : Prop :=
  ∃ (xs : List Int) (r : Int), 0 ≤ r ∧ r ≤ n ∧ xs ++ putL r = putL n ∧ q = .int .i64 r ∧ wr.ownsRow base 5 1 v xs.length (xs.map (Value.int .u8))
theorem PutRel.step {n : Int} {base : Nat} {v' : Value} {wr : World} {xs : List Int} {r : Int} (h0 : 128 ≤ r) (hn : r ≤ n) (he : xs ++ putL r = putL n)
    (ho : wr.ownsRow base 5 1 v' (xs.length + 1) (xs.map (Value.int .u8) ++ [.int .u8 (128 + r % 128)])) : PutRel n base (.int .i64 (r / 128)) v' wr :=
  ⟨xs ++ [r % 128 + 128], r / 128, by omega, by omega, by rw [List.append_assoc, ← he, putL_big h0]; rfl, rfl, by rw [Int.add_comm] at ho; simpa using ho⟩
theorem put_short {n r : Int} {xs : List Int} (h0 : 0 ≤ n) (h1 : n ≤ 9223372036854775807) (he : xs ++ putL r = putL n) : xs.length ≤ 8 := by
  have := congrArg List.length he
  have a := putL_len h0 h1
  have b := putL_pos r
  simp at this
  omega
theorem put_last {n r : Int} {base : Nat} {v' : Value} {wr : World} {xs : List Int} (h : r < 128) (he : xs ++ putL r = putL n)
    (ho : wr.ownsRow base 5 1 v' (xs.length + 1) (xs.map (Value.int .u8) ++ [.int .u8 r])) : wr.ownsRow base 5 1 v' (putL n).length ((putL n).map (Value.int .u8)) := by
  rw [putL_small h] at he
  rw [← he]
  simpa using ho
set_option maxHeartbeats 400000 in
theorem l1Put_any (n : Int) (w : World) (h0 : 0 ≤ n) (h1 : n ≤ 9223372036854775807) :
    Calls Tryz.prog 239 #[.int .i64 n] w fun e w' => ∃ A c, e = .returned (.slice A (putL n).length c) ∧ w'.ownsRow w.heap.size 5 1 (.slice A (putL n).length c) (putL n).length ((putL n).map (Value.int .u8)) ∧ Below w.heap.size w w' := by
  obtain ⟨i0, hi, hz0, hz1, hz2⟩ := info_parts info_u8
  go_enter Tryz.func239, Tryz.ntmps239
  go_wp2
  go_loopw [0, 3] (fun q v wr => PutRel n w.heap.size q v wr ∧ Below w.heap.size w wr) (fun q _ _ => (intOf q).toNat)
  case atStart =>
    exact ⟨⟨[], n, h0, Int.le_refl _, rfl, rfl, World.ownsRow_lit w #[] 0 (Nat.le_refl _) (by simp) rfl⟩, (Below.refl _ _).alloc (Nat.le_refl _) _⟩
  case round =>
    obtain ⟨⟨xs, r, hr0, hrn, he, rfl, ho⟩, hb⟩ := hrel
    have hsh := put_short h0 h1 he
    have HE := hide he
    clear he
    by_cases hlt : 128 ≤ r
    · go_wp2_with (at_builtin; refine wpList_append_own_at _ rfl _ _ 22 rfl w.heap.size 5 i0 (.int .u8 0) 1 1 Tryz.underlying22 hi hz0 hz1 hz2 rfl (by decide) _ _ _ rfl (ho.alloc _) ⟨wr.heap.size, 0, none⟩ 1 1 [.int .u8 (128 + r % 128)] rfl rfl (cell_one_new _ _ _) (one_cell _ _) (by unfold maxLen; omega) (by omega) (by simp; have := hb.size; omega) ?_; intro v' w1 hown' hgrow _ hat)
      have hb1 : Below w.heap.size w w1 := (hb.alloc hb.size _).grown hgrow (by simp; have := hb.size; omega) (fun k hk => (ho.lt k hk).1)
      go_roundw
      case rel => exact ⟨PutRel.step hlt hrn HE.out hown', hb1⟩
      case measure => simp [intOf]; omega
    · go_wp2_with (at_builtin; refine wpList_append_own_at _ rfl _ _ 22 rfl w.heap.size 5 i0 (.int .u8 0) 1 1 Tryz.underlying22 hi hz0 hz1 hz2 rfl (by decide) _ _ _ rfl (ho.alloc _) ⟨wr.heap.size, 0, none⟩ 1 1 [.int .u8 r] rfl rfl (cell_one_new _ _ _) (one_cell _ _) (by unfold maxLen; omega) (by omega) (by simp; have := hb.size; omega) ?_; intro v' w1 hown' hgrow _ hat)
      have hb1 : Below w.heap.size w w1 := (hb.alloc hb.size _).grown hgrow (by simp; have := hb.size; omega) (fun k hk => (ho.lt k hk).1)
      have ho2 := put_last (by omega) HE.out hown'
      obtain ⟨A, c, hv⟩ := own_shape ho2
      go_ret
      rw [hv] at ho2
      exact ⟨A, c, congrArg Ending.returned hv, ho2, hb1⟩
end Go.Proofs.YtnnfkmjhaljplaaGreatDoor
namespace Go.Proofs.YtnnfkmjhaljplaaGreatDoor
open Go.RowKit
theorem ints_one (k : IntKind) (l : List Int) : ∀ u ∈ l.map (Value.int k), u.oneCell' = true := by
  intro u hu
  obtain ⟨x, _, rfl⟩ := List.mem_map.1 hu
  rfl
theorem cells_of_rd {k : IntKind} {w : World} {B : Nat} {ad : Addr} {l : List Int} (h : Rd k w B (some ad) l) : ∀ j u, (l.map (Value.int k))[j]? = some u → w.cell? (ad.add j) = some u := by
  intro j u hj
  have hjl : j < l.length := by
    rcases Nat.lt_or_ge j l.length with a | a
    · exact a
    · rw [List.getElem?_eq_none (by simpa using a)] at hj
      exact absurd hj (by simp)
  obtain ⟨b, off, e, _, hc⟩ := h.get hjl
  cases e
  rw [Go.WideShapes.add_plain, hc]
  simp only [List.getElem?_map, List.getElem?_eq_getElem hjl, Option.map_some, Option.some.injEq] at hj
  rw [hj]
section
variable {P : Program} (w : World)
theorem run_append_rd (base : Nat) (t ty e : TypeId) (i : TypeInfo) (z : Value) (bytes : Nat) (ht : P.underlying t = some (.slice e)) (hi : P.info? e = some i) (hz : i.zero = some z)
    (hsize : i.size = 1) (hby : i.bytes = bytes) (hzs : z.cells.size = 1) (k : IntKind)
    (v : Value) (n : Nat) (xs : List Value) (hown : w.ownsRow base e 1 v n xs) (A : Option Addr) (l : List Int) (c B : Nat) (hR : Rd k w B A l)
    (h63 : n + l.length ≤ maxLen) (hbytes : (n + l.length) * bytes ≤ 140737488355328) (hbase : base ≤ w.heap.size) :
    ∃ v' w', (Builtin.append_ #[t, t] ty #[v, .slice A l.length c]).run P w = .ok v' w' ∧ w'.ownsRow base e 1 v' (n + l.length) (xs ++ l.map (Value.int k)) ∧ w.grownBy w' v.ownBlock ∧ (v'.ownBlock = v.ownBlock ∨ v'.ownBlock = some w.heap.size) := by
  rcases A with _ | ad
  · have hl : l = [] := by
      rcases l with _ | ⟨x, l⟩
      · rfl
      · obtain ⟨b, off, e, _⟩ := hR.all (by simp)
        cases e
    subst hl
    refine ⟨v, w, ?_, by simpa using hown, World.grownBy.refl w _, .inl rfl⟩
    rcases hown.2 with ⟨rfl, rfl⟩ | ⟨g, cap, cur, rfl, _, _, hnc, _⟩
    · simp [Builtin.append_, run_underlying ht, sizeOf, typeInfo, hi, Builtin.lenOf, Builtin.firstCells]
    · simp [Builtin.append_, run_underlying ht, sizeOf, typeInfo, hi, Builtin.lenOf, Builtin.firstCells, hnc, storeCells]
  · obtain ⟨v', w', hr, h2, h3, _, h5⟩ := run_append_own_at (P := P) w base t ty e i z 1 bytes ht hi hz hsize hby hzs (by omega) v n xs hown ad l.length c (l.map (Value.int k)) (by simp) (cells_of_rd hR) (ints_one k l) h63 hbytes hbase
    exact ⟨v', w', hr, h2, h3, h5⟩
theorem wpList_append_rd {ops : Array Oper} {rest : List Oper} {o : Oper} {a : Act} {Q : Exit → Act → World → Prop} (hgd : o.guard = none) (s x : Operand) (t : TypeId)
    (ho : o.op = .call { callee := .builtin .append, args := #[s, x], argTypes := #[t, t] })
    (base : Nat) (e : TypeId) (i : TypeInfo) (z : Value) (bytes : Nat) (ht : P.underlying t = some (.slice e)) (hi : P.info? e = some i) (hz : i.zero = some z)
    (hsize : i.size = 1) (hby : i.bytes = bytes) (hzs : z.cells.size = 1) (k : IntKind)
    (v : Value) (n : Nat) (xs : List Value) (hs : a.eval s = v) (hown : w.ownsRow base e 1 v n xs) (A : Option Addr) (l : List Int) (c B : Nat) (hx : a.eval x = .slice A l.length c) (hR : Rd k w B A l)
    (h63 : n + l.length ≤ maxLen) (hbytes : (n + l.length) * bytes ≤ 140737488355328) (hbase : base ≤ w.heap.size)
    (h : ∀ v' w', w'.ownsRow base e 1 v' (n + l.length) (xs ++ l.map (Value.int k)) → w.grownBy w' v.ownBlock → (v'.ownBlock = v.ownBlock ∨ v'.ownBlock = some w.heap.size) → wpList P ops Q rest (a.put o.dst v') w') : wpList P ops Q (o :: rest) a w := by
  refine wpList_plain hgd fun K hK => ?_
  obtain ⟨v', w', hr, h2, h3, h5⟩ := run_append_rd (P := P) w base t o.type e i z bytes ht hi hz hsize hby hzs k v n xs hown A l c B hR h63 hbytes hbase
  unfold Oper.wp execOp
  simp only [ho, resolve, invoke, builtin, Sem.run_bind, Sem.run_pure, Result.andThen_ok, List.map_toArray, List.map_cons, List.map_nil, hs, hx, hr]
  exact hK _ _ (h v' w' h2 h3 h5)
end
end Go.Proofs.YtnnfkmjhaljplaaGreatDoor
namespace Go.Proofs.YtnnfkmjhaljplaaGreatDoor
open Go.RowKit
theorem field_value (a b : Int) (W : World) : (Instr.field 250 (.agg #[.int .i64 a, .int .i64 b]) 1).run Tryz.prog W = .ok (.int .i64 b) W := by kernel_rfl

end Go.Proofs.YtnnfkmjhaljplaaGreatDoor
namespace Go.Proofs.YtnnfkmjhaljplaaGreatDoor
open Go.RowKit
/-- A number's four bytes, the lowest one first. -/
def fourL (v : Int) : List Int := [v % 256, v / 256 % 256, v / 65536 % 256, v / 16777216]
theorem fourL_length (v : Int) : (fourL v).length = 4 := rfl
theorem fourL_B8 {v : Int} (h : 0 ≤ v ∧ v < 4294967296) : B8 (fourL v) := by
  intro x hx
  simp only [fourL, List.mem_cons, List.not_mem_nil, or_false] at hx
  rcases hx with rfl | rfl | rfl | rfl <;> omega
theorem crcV_bd {l : List Int} (b : B8 l) : 0 ≤ crcV l ∧ crcV l < 4294967296 := by
  unfold crcV
  split
  · have h1 : crcS 4294967295 l < 4294967296 := crcS_lt _ _ b (by omega)
    have : crcS 4294967295 l ^^^ 4294967295 < 2 ^ 32 := Nat.xor_lt_two_pow h1 (by decide)
    omega
  · omega
theorem l1Four_any (v : Int) (w : World) (h : 0 ≤ v ∧ v < 4294967296) :
    Calls Tryz.prog 140 #[.int .i64 v] w fun e w' => ∃ g, e = .returned (.slice (some ⟨g, 0, none⟩) 4 4) ∧ w'.ownsRow w.heap.size 5 1 (.slice (some ⟨g, 0, none⟩) 4 4) 4 ((fourL v).map (Value.int .u8)) ∧ Below w.heap.size w w' := by
  go_enter Tryz.func140, Tryz.ntmps140
  go_wp2
  go_ret
  exact ⟨_, rfl, World.ownsRow_lit w _ 4 (Nat.le_refl _) (by unfold maxLen; omega) rfl, (Below.refl _ _).alloc (Nat.le_refl _) _⟩
theorem sumBytes_any (l : List Int) (A : Option Addr) (c : Nat) (w : World) (hm : l.length ≤ 4000) (hR : Rd .u8 w w.heap.size A l) (b8 : B8 l) (hT : Tab w) :
    Calls Tryz.prog 149 #[.slice A l.length c] w fun e w' => ∃ g, e = .returned (.slice (some ⟨g, 0, none⟩) 4 4) ∧ w'.ownsRow w.heap.size 5 1 (.slice (some ⟨g, 0, none⟩) 4 4) 4 ((fourL (crcV l)).map (Value.int .u8)) ∧ Below w.heap.size w w' := by
  have hv := crcV_bd b8
  obtain ⟨C, hC⟩ : ∃ C, C = crcC l := ⟨_, rfl⟩
  obtain ⟨v, hV⟩ : ∃ V, V = crcV l := ⟨_, rfl⟩
  have IM := hide (implCrc_any l A c w (by omega) hR b8 hT)
  rw [← hC, ← hV] at IM
  rw [← hV] at hv ⊢
  clear hC hV hT
  have hfl := field_value
  go_enter Tryz.func149, Tryz.ntmps149
  go_wp2_with fail
  refine IM.out.mono ?_
  rintro e w1 ⟨rfl, b1⟩
  go_wp2
  go_ret
  exact ⟨_, rfl, World.ownsRow_lit w1 _ 4 b1.size (by unfold maxLen; omega) rfl, b1.alloc b1.size _⟩
end Go.Proofs.YtnnfkmjhaljplaaGreatDoor
namespace Go.Proofs.YtnnfkmjhaljplaaGreatDoor
open Go.RowKit
/-- Where a frame's events begin in data, and where its sum does. -/
noncomputable def frFrom (d : List Int) : Nat := 2 + (rdZ (d.drop 2)).toNat
noncomputable def frTo (d : List Int) : Nat := frFrom d + (rdV (d.drop 2)).toNat
/-- Data begins with what a frame is laid out as. -/
def frHd (d : List Int) : Prop := 2 ≤ d.length ∧ d.getD 0 0 = 66 ∧ d.getD 1 0 < 4 ∧ rdC (d.drop 2) = 0 ∧ 1 ≤ rdV (d.drop 2) ∧ rdV (d.drop 2) ≤ 200 ∧ frTo d + 4 ≤ d.length
noncomputable def frPay (d : List Int) : List Int := (d.take (frTo d)).drop (frFrom d)
def frSum (d : List Int) : Prop := fourL (crcV (d.take (frTo d))) = (d.drop (frTo d)).take 4
open Classical in
/-- The code of a reading. -/
noncomputable def frC (d : List Int) : Int := if frHd d then (if frSum d then (if unC (frPay d) = 0 then 0 else 1) else 6) else 5
open Classical in
noncomputable def frE (d : List Int) : List Ev := if frC d = 0 then unE (frPay d) else []
open Classical in
noncomputable def frK (d : List Int) : Int := if frC d = 0 then d.getD 1 0 else 0
open Classical in
noncomputable def frZ (d : List Int) : Int := if frC d = 0 then frTo d + 4 else 0
theorem frC_text {d : List Int} (h : ¬ frHd d) : frC d = 5 := if_neg h
theorem frC_sum {d : List Int} (h : frHd d) (h1 : ¬ frSum d) : frC d = 6 := by unfold frC; rw [if_pos h, if_neg h1]
theorem frC_form {d : List Int} (h : frHd d) (h1 : frSum d) (h2 : ¬ unC (frPay d) = 0) : frC d = 1 := by unfold frC; rw [if_pos h, if_pos h1, if_neg h2]
theorem frC_ok {d : List Int} (h : frHd d) (h1 : frSum d) (h2 : unC (frPay d) = 0) : frC d = 0 := by unfold frC; rw [if_pos h, if_pos h1, if_pos h2]
theorem frC_zero {d : List Int} (h : frC d = 0) : frHd d ∧ frSum d ∧ unC (frPay d) = 0 := by
  by_cases h0 : frHd d
  · by_cases h1 : frSum d
    · by_cases h2 : unC (frPay d) = 0
      · exact ⟨h0, h1, h2⟩
      · rw [frC_form h0 h1 h2] at h; omega
    · rw [frC_sum h0 h1] at h; omega
  · rw [frC_text h0] at h; omega
theorem frC_not {d : List Int} (h : ¬ frC d = 0) : frE d = [] ∧ frK d = 0 ∧ frZ d = 0 := ⟨if_neg h, if_neg h, if_neg h⟩
theorem frC_yes {d : List Int} (h : frC d = 0) : frE d = unE (frPay d) ∧ frK d = d.getD 1 0 ∧ frZ d = frTo d + 4 := ⟨if_pos h, if_pos h, if_pos h⟩
theorem frPay_len (d : List Int) (h : frHd d) : (frPay d).length = (rdV (d.drop 2)).toNat := by
  obtain ⟨h0, h1, h2, h3, h4, h5, h6⟩ := h
  unfold frPay
  rw [List.length_drop, List.length_take]
  unfold frTo at h6 ⊢
  omega
end Go.Proofs.YtnnfkmjhaljplaaGreatDoor
