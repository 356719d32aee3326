/- Contracts of a bus's smaller methods, in the program: place, at, put, isOf, lineOf, stateOf, letGo, share. -/
import Derived.Test.YtifijhfeeammkaaBus
import Derived.WalkKit
namespace Go.Proofs.Ytifijhfeeammkaa
open Go.RowKit

theorem place_any (A : Option Addr) (L c : Nat) (a : Int) (w : World) (hL : 1 ≤ L ∧ L ≤ 1000) (ha : 0 ≤ a) :
    Calls Try.prog 140 #[.slice A L c, .int .i64 a] w fun e w' => e = .returned (.int .i64 (a % (L : Int))) ∧ w = w' := by
  obtain ⟨hL1, hL2⟩ := hL
  have ht : a.tmod (L : Int) = a % (L : Int) := Int.tmod_eq_emod_of_nonneg ha
  have hr0 := Int.emod_nonneg a (show (L : Int) ≠ 0 by omega)
  have hr1 := Int.emod_lt_of_pos a (show (0 : Int) < (L : Int) by omega)
  go_enter Try.func140, Try.ntmps140
  go_wp2
  go_ret
  first | exact ⟨rfl, rfl⟩ | exact ⟨by simp [ht], rfl⟩
theorem at_any (b L c k : Nat) (a : Int) (x : Value) (w : World) (hL : 1 ≤ L ∧ L ≤ 1000) (ha : 0 ≤ a) (hk : a % (L : Int) = (k : Int)) (hx : w.cell? ⟨b, k, none⟩ = some x) :
    Calls Try.prog 115 #[.slice (some ⟨b, 0, none⟩) L c, .int .i64 a] w fun e w' => e = .returned x ∧ w = w' := by
  have hr1 := Int.emod_lt_of_pos a (show (0 : Int) < (L : Int) by omega)
  rw [hk] at hr1
  have PL := place_any (some ⟨b, 0, none⟩) L c a w hL ha
  rw [hk] at PL
  have HP := hide PL
  have hk0 : (0 : Int) ≤ (k : Int) := by omega
  clear PL hk
  go_enter Try.func115, Try.ntmps115
  go_wp2_with fail
  refine HP.out.mono ?_
  rintro e w1 ⟨rfl, rfl⟩
  go_wp2
  go_ret
  exact ⟨rfl, rfl⟩
theorem put_any (b L c k : Nat) (a : Int) (T : TypeId) (V x : Value) (w : World) (hL : 1 ≤ L ∧ L ≤ 1000) (ha : 0 ≤ a) (hk : a % (L : Int) = (k : Int)) (hx : w.cell? ⟨b, k, none⟩ = some x) (hf : w.frozen? ⟨b, k, none⟩ = false) :
    Calls Try.prog 142 #[.slice (some ⟨b, 0, none⟩) L c, .int .i64 a, .iface T V] w fun e w' => e = .returned (.tuple #[]) ∧ w' = w.setCell ⟨b, k, none⟩ (.iface T V) := by
  have hr1 := Int.emod_lt_of_pos a (show (0 : Int) < (L : Int) by omega)
  rw [hk] at hr1
  have PL := place_any (some ⟨b, 0, none⟩) L c a w hL ha
  rw [hk] at PL
  have HP := hide PL
  have hk0 : (0 : Int) ≤ (k : Int) := by omega
  clear PL hk
  go_enter Try.func142, Try.ntmps142
  go_wp2_with fail
  refine HP.out.mono ?_
  rintro e w1 ⟨rfl, rfl⟩
  go_wp2
  go_end0
  exact ⟨rfl, rfl⟩

theorem isOfS_any (a v x : Int) (w : World) :
    Calls Try.prog 177 #[.agg #[.int .i64 a, .int .i64 v], .int .i64 x] w fun e w' => e = .returned (.bool (a == x)) ∧ Below w.heap.size w w' := by
  go_enter Try.func177, Try.ntmps177
  go_wp2
  go_ret
  exact ⟨rfl, by go_grown⟩
theorem isOfM_any (a v x : Int) (w : World) :
    Calls Try.prog 156 #[.agg #[.int .i64 a, .int .i64 v], .int .i64 x] w fun e w' => e = .returned (.bool (a == x)) ∧ Below w.heap.size w w' := by
  go_enter Try.func156, Try.ntmps156
  go_wp2
  go_ret
  exact ⟨rfl, by go_grown⟩
theorem isOfI_any (x : Int) (w : World) :
    Calls Try.prog 178 #[.agg #[], .int .i64 x] w fun e w' => e = .returned (.bool false) ∧ Below w.heap.size w w' := by
  go_enter Try.func178, Try.ntmps178
  go_wp2
  go_ret
  exact ⟨rfl, by go_grown⟩
theorem mthS (v : Value) (w : World) : (method 341 202 v "loop.example/g00800/impl.isOf").run Try.prog w = .ok (177, v) w := by kernel_rfl
theorem mthM (v : Value) (w : World) : (method 341 203 v "loop.example/g00800/impl.isOf").run Try.prog w = .ok (156, v) w := by kernel_rfl
theorem mthI (v : Value) (w : World) : (method 341 205 v "loop.example/g00800/impl.isOf").run Try.prog w = .ok (178, v) w := by kernel_rfl

theorem ta_SS (v : Value) (xT : TypeId) (w : World) : (Instr.typeAssert (.iface 202 v) xT 202 true).run Try.prog w = .ok (.tuple #[v, .bool true]) w := by
  simp [Instr.typeAssert, run_underlying Try.underlying202]
theorem ta_SM (v : Value) (xT : TypeId) (w : World) : (Instr.typeAssert (.iface 202 v) xT 203 true).run Try.prog w = .ok (.tuple #[.agg #[.int .i64 0, .int .i64 0], .bool false]) w := by
  simp [Instr.typeAssert, run_underlying Try.underlying203, Try.zeroValue203]
theorem ta_MS (v : Value) (xT : TypeId) (w : World) : (Instr.typeAssert (.iface 203 v) xT 202 true).run Try.prog w = .ok (.tuple #[.agg #[.int .i64 0, .int .i64 0], .bool false]) w := by
  simp [Instr.typeAssert, run_underlying Try.underlying202, Try.zeroValue202]
theorem ta_MM (v : Value) (xT : TypeId) (w : World) : (Instr.typeAssert (.iface 203 v) xT 203 true).run Try.prog w = .ok (.tuple #[v, .bool true]) w := by
  simp [Instr.typeAssert, run_underlying Try.underlying203]
theorem ta_IS (v : Value) (xT : TypeId) (w : World) : (Instr.typeAssert (.iface 205 v) xT 202 true).run Try.prog w = .ok (.tuple #[.agg #[.int .i64 0, .int .i64 0], .bool false]) w := by
  simp [Instr.typeAssert, run_underlying Try.underlying202, Try.zeroValue202]
theorem ta_IM (v : Value) (xT : TypeId) (w : World) : (Instr.typeAssert (.iface 205 v) xT 203 true).run Try.prog w = .ok (.tuple #[.agg #[.int .i64 0, .int .i64 0], .bool false]) w := by
  simp [Instr.typeAssert, run_underlying Try.underlying203, Try.zeroValue203]
set_option maxRecDepth 100000 in
theorem lineOf_any (x : Ev) (w : World) (hk : x.k = 0 ∨ x.k = 1 ∨ x.k = 2) (h0 : x.k = 0 → x = lnZ) :
    Calls Try.prog 119 #[stV x] w fun e w' => e = .returned (evV x.k x.a x.v) ∧ Below w.heap.size w w' := by
  rcases hk with h | h | h
  · have e0 := h0 h
    subst e0
    rw [stV_0 h]
    clear h h0
    have t1 := ta_IS
    have t2 := ta_IM
    go_enter Try.func119, Try.ntmps119
    go_wp2
    refine bodyPost_ret (v := evV 0 0 0) (by simp [results, Try.results119, go_sem]) rfl ?_
    exact ⟨rfl, by go_grown⟩
  · rw [stV_1 h, h]
    clear h h0
    have t1 := ta_SS
    go_enter Try.func119, Try.ntmps119
    go_wp2
    refine bodyPost_ret (v := evV 1 x.a x.v) (by simp [results, Try.results119, go_sem]) rfl ?_
    exact ⟨rfl, by go_grown⟩
  · rw [stV_2 h, h]
    clear h h0
    have t1 := ta_MS
    have t2 := ta_MM
    go_enter Try.func119, Try.ntmps119
    go_wp2
    refine bodyPost_ret (v := evV 2 x.a x.v) (by simp [results, Try.results119, go_sem]) rfl ?_
    exact ⟨rfl, by go_grown⟩
set_option maxRecDepth 100000 in
theorem stateOf_any (x : Ev) (w : World) (hk : x.k = 0 ∨ x.k = 1 ∨ x.k = 2) :
    Calls Try.prog 114 #[evV x.k x.a x.v] w fun e w' => e = .returned (stV x) ∧ Below w.heap.size w w' := by
  rcases hk with h | h | h
  · rw [stV_0 h, h]
    clear h
    go_enter Try.func114, Try.ntmps114
    go_wp2
    go_ret
    exact ⟨rfl, by go_grown⟩
  · rw [stV_1 h, h]
    clear h
    go_enter Try.func114, Try.ntmps114
    go_wp2
    go_ret
    exact ⟨rfl, by go_grown⟩
  · rw [stV_2 h, h]
    clear h
    go_enter Try.func114, Try.ntmps114
    go_wp2
    go_ret
    exact ⟨rfl, by go_grown⟩
end Go.Proofs.Ytifijhfeeammkaa
