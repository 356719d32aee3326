/- Contracts of the model's draws of events. Contracts of the model's draws of traces. What the model's bent traces are. Contracts of the draws of chapter 2: steps and traces with a fault, steps and traces that are the same or not, an event. -/
import Derived.Test.YtmdaianbhpppfaaGreatDoorGEv
import Derived.Test.YtmdaianbhpppfaaGreatDoorGDraw
import Derived.Test.YtmdaianbhpppfaaGreatDoorGUnp
import Derived.Test.YtmdaianbhpppfaaGreatDoorGBase
import Derived.Test.YtmdaianbhpppfaaGreatDoorGTrS
import Derived.Test.YtmdaianbhpppfaaGreatDoorGApp
namespace Go.Proofs.YtmdaianbhpppfaaGreatDoor
open Go.RowKit

/-- The source in block g went on by m readings at most; nothing else below is turned. -/
def Went (w : World) (g : Nat) (A : Option Addr) (c : Nat) (l : List Int) (k m : Nat) (w' : World) : Prop := ∃ k', k' ≤ k + m ∧ Src w' g A c l k' ∧ w.grownBy w' (some g)

set_option maxHeartbeats 400000 in
theorem l2Event_any (g k : Nat) (A : Option Addr) (c : Nat) (l : List Int) (w : World) (hS : Src w g A c l k) (hk : k ≤ 900) :
    Calls Tryz.prog 63 #[.pointer (some ⟨g, 0, none⟩)] w fun e w' => ∃ x : Ev, e = .returned (evV x.k x.a x.v) ∧ evF x = 0 ∧ Went w g A c l k 3 w' := by
  obtain ⟨W, hW⟩ : ∃ W, W = w.alloc (Obj.cells #[Value.int .i64 0, .int .i64 0, .int .i64 0] 39) := ⟨_, rfl⟩
  have HW := hide hW
  have kr : Bk W w.heap.size #[.int .i64 0, .int .i64 0, .int .i64 0] 39 := by rw [hW]; exact Bk.new _ _ _
  have S0 : Src W g A c l k := by rw [hW]; exact hS.alloc _
  have G0 : w.grownBy W (some g) := by rw [hW]; exact World.grownBy_alloc _ _ _
  have hgl := hS.lt
  clear hW
  go_enter Tryz.func63, Tryz.ntmps63
  go_wp2_with fail
  rw [← HW.out]
  refine (l1Next_any g k 2 A c l W S0 (by omega) (by omega) (by omega)).mono ?_
  rintro e w1 ⟨r, rfl, h0, h1, S1, g1⟩
  have kr := kr.grown g1 (by simp; omega)
  have G1 := G0.trans g1
  clear g1
  go_wp2_with fail
  refine (l1Pick_any g (k + 1) _ [0, 1, 2, 1, 2, 1000, 999999] A c l _ _ (S1.alloc _) (by omega) (by simp) (by simp) (Bk.new _ _ _) (by have := S1.lt; omega)).mono ?_
  rintro e w2 ⟨a, rfl, ha, S2, g2⟩
  have kr := (kr.alloc _).grown g2 (by simp; omega)
  have G2 := G1.trans (grown_alloc g2)
  clear g2
  go_wp2_with fail
  refine (l1Pick_any g (k + 2) _ [0, 1, 2, 1, 2, 999999, 127, 128] A c l _ _ (S2.alloc _) (by omega) (by simp) (by simp) (Bk.new _ _ _) (by have := S2.lt; omega)).mono ?_
  rintro e w3 ⟨v, rfl, hv, S3, g3⟩
  have kr := (kr.alloc _).grown g3 (by simp; omega)
  have G3 := G2.trans (grown_alloc g3)
  clear g3
  have q0 : w3.cell? ⟨w.heap.size, 0, none⟩ = some (.int .i64 0) := (kr.cell 0).trans rfl
  have q1 : w3.cell? ⟨w.heap.size, 1, none⟩ = some (.int .i64 0) := (kr.cell 1).trans rfl
  have q2 : w3.cell? ⟨w.heap.size, 2, none⟩ = some (.int .i64 0) := (kr.cell 2).trans rfl
  have f0 := kr.frozen 0
  have f1 := kr.frozen 1
  have f2 := kr.frozen 2
  go_wp2
  refine bodyPost_ret (v := evV r a v) (by simp [results, Tryz.results63, go_sem, q0, q1, q2]) rfl ?_
  refine ⟨⟨r, a, v⟩, rfl, evF_ok (by simp only; omega) ?_, k + 3, by omega, ?_, ?_⟩
  · simp at ha hv
    simp only
    omega
  · exact S3.below (B := g + 1) ((((Below.refl _ _).setCell (by simp only; omega) _).setCell (by simp only; omega) _).setCell (by simp only; omega) _) (Nat.lt_succ_self _)
  · exact grown_new (Nat.le_refl _) _ (grown_new (Nat.le_refl _) _ (grown_new (Nat.le_refl _) _ G3))

set_option maxRecDepth 100000 in
set_option maxHeartbeats 800000 in
theorem l2Steps_any (g k n : Nat) (A : Option Addr) (c : Nat) (l : List Int) (w : World) (hS : Src w g A c l k) (hk : k ≤ 600) (hn : n ≤ 20) :
    Calls Tryz.prog 56 #[.pointer (some ⟨g, 0, none⟩), .int .i64 n] w fun e w' => ∃ es D d, e = .returned (.slice D es.length d) ∧ es.length ≤ n ∧ (∀ x ∈ es, evF x = 0) ∧ w'.ownsRow w.heap.size 39 3 (.slice D es.length d) es.length (evs es) ∧ Went w g A c l k 61 w' := by
  obtain ⟨i0, hi, hz0, hz1, hz2⟩ := info_parts info_event
  have hgl := hS.lt
  go_enter Tryz.func56, Tryz.ntmps56
  go_wp2_with fail
  refine (l1Next_any g k _ A c l _ (hS.alloc _) (by omega) (by omega) (by omega)).mono ?_
  rintro e w1 ⟨r, rfl, h0, h1, S1, g1⟩
  have hr : r ≤ n := by omega
  obtain ⟨N, rfl⟩ := Int.eq_ofNat_of_zero_le h0
  have hN : N ≤ n := by omega
  have o1 := (World.ownsRow_lit w #[] 0 (e := 39) (size := 3) (base := w.heap.size) (Nat.le_refl _) (by simp) rfl).kept g1 (.inr (by simp [Value.ownBlock]; omega))
  have G1 := grown_alloc g1
  clear g1 h1 hr
  go_wp2
  go_loopw [5, 6] (fun v q wr => ∃ (es : List Ev) (m k' : Nat), m + es.length = N ∧ q = .int .i64 m ∧ (∀ x ∈ es, evF x = 0) ∧ wr.ownsRow w.heap.size 39 3 v es.length (evs es) ∧ Src wr g A c l k' ∧ k' + 3 * m ≤ k + 1 + 3 * N ∧ w.grownBy wr (some g)) (fun _ q _ => (intOf q).toNat)
  case atStart => exact ⟨[], N, k + 1, rfl, rfl, by simp, o1, S1, by omega, G1⟩
  case round =>
    obtain ⟨es, m, k', hm, rfl, hall, ho, hSr, hkk, hgr⟩ := hrel
    have HM := hide hm
    have hx1 : es.length ≤ 20 := by omega
    have hm1 : m ≤ 20 := by omega
    clear hm
    have hsz := hgr.size
    by_cases hlt : 0 < m
    · go_wp2_with fail
      refine (l2Event_any g k' A c l wr hSr (by omega)).mono ?_
      rintro e w1 ⟨x, rfl, hx, k2, hk2, hS1, hg1⟩
      have ho1 := ho.kept hg1 (.inr (fun e => own_apart ho g (.inl hgl) e.symm))
      have hgr1 := hgr.trans hg1
      have hsz1 := hgr1.size
      clear hg1
      go_wp2_with (at_builtin; refine wpList_append_own_at _ rfl _ _ 55 rfl w.heap.size 39 i0 (.agg #[.int .i64 0, .int .i64 0, .int .i64 0]) 3 24 Tryz.underlying55 hi hz0 hz1 hz2 rfl (by decide) _ _ _ rfl (ho1.alloc _) ⟨w1.heap.size, 0, none⟩ 1 1 [.int .i64 x.k, .int .i64 x.a, .int .i64 x.v] rfl rfl (cell_three_new _ _ _ _ _) (one_cells3 _ _ _ _) (by unfold maxLen; omega) (by omega) (by simp; omega) ?_; intro v' w2 hown' hgrow _ hat)
      have hbl : Below w.heap.size w1 w2 := ((Below.refl _ _).alloc hsz1 _).trans (grown_below (ho1.alloc (.cells #[.int .i64 x.k, .int .i64 x.a, .int .i64 x.v] 39)) hgrow (by simp; omega) (Nat.le_refl _))
      have hgr2 : w.grownBy w2 (some g) := hgr1.andThen (grown_alloc hgrow) (fun j hj => .inl (ho1.lt j hj).1)
      clear hgrow hat
      go_roundw
      case rel => exact ⟨es ++ [x], m - 1, k2, by have := HM.out; simp; omega, by go_num, by intro y hy; rcases List.mem_append.1 hy with h | h; exact hall y h; simp at h; rw [h]; exact hx, by rw [List.length_append, evs_append]; exact hown', hS1.below hbl hgl, by omega, hgr2⟩
      case measure => simp [intOf]; omega
    · obtain ⟨D, d, hv⟩ := own_shape ho
      have HV := hide hv
      clear hv
      go_wp2
      go_ret
      have hn : es.length = N := by have := HM.out; omega
      have ho2 := ho
      rw [HV.out] at ho2
      exact ⟨es, D, d, congrArg Ending.returned HV.out, by omega, hall, ho2, k', by omega, hSr, hgr⟩
end Go.Proofs.YtmdaianbhpppfaaGreatDoor
namespace Go.Proofs.YtmdaianbhpppfaaGreatDoor
open Go.RowKit

theorem one_cellS (A : Option Addr) (n c : Nat) : ∀ u ∈ [Value.slice A n c], u.oneCell' = true := by intro u hu; simp at hu; subst hu; rfl
/-- A new row is apart from what was there. -/
theorem OwnT.fresh {w w' : World} {base : Nat} {v : Value} {t : List (List Ev)} {us : List Value} (h : OwnT w base v t us) {u : Value} {n : Nat} {xs : List Value} (hu : w'.ownsRow w.heap.size 39 3 u n xs) :
    ∀ b, u.ownBlock = some b → v.ownBlock ≠ some b ∧ ∀ (i : Nat) (u' : Value), us[i]? = some u' → u'.ownBlock ≠ some b := by
  intro b hb
  have h1 := (hu.lt b hb).1
  refine ⟨fun e => by have := h.row.lt b e; omega, fun i u' hi e => ?_⟩
  obtain ⟨_, hq, _⟩ := h.at_ hi
  have := hq.lt b e
  omega

set_option maxRecDepth 100000 in
set_option maxHeartbeats 800000 in
theorem l2TraceR_any (g k n : Nat) (A : Option Addr) (c : Nat) (l : List Int) (w : World) (hS : Src w g A c l k) (hk : k ≤ 100) (hn : n ≤ 20) :
    Calls Tryz.prog 31 #[.pointer (some ⟨g, 0, none⟩), .int .i64 n] w fun e w' => ∃ t us D d, e = .returned (.slice D t.length d) ∧ 1 ≤ t.length ∧ t.length ≤ 4 ∧ (∀ x ∈ t, x.length ≤ n ∧ ∀ y ∈ x, evF y = 0) ∧ OwnT w' w.heap.size (.slice D t.length d) t us ∧ Went w g A c l k 250 w' := by
  obtain ⟨i0, hi, hz0, hz1, hz2⟩ := info_parts info_events
  have hgl := hS.lt
  go_enter Tryz.func31, Tryz.ntmps31
  go_wp2_with fail
  refine (l1Next_any g k 4 A c l _ (hS.alloc _) (by omega) (by omega) (by omega)).mono ?_
  rintro e w1 ⟨r, rfl, h0, h1, S1, g1⟩
  have hr : r ≤ 3 := by omega
  obtain ⟨N, rfl⟩ := Int.eq_ofNat_of_zero_le h0
  have hN : N ≤ 3 := by omega
  have o1 := (World.ownsRow_lit w #[] 0 (e := 55) (size := 1) (base := w.heap.size) (Nat.le_refl _) (by simp) rfl).kept g1 (.inr (by simp [Value.ownBlock]; omega))
  have oT : OwnT w1 w.heap.size (.slice (some ⟨w.heap.size, 0, none⟩) 0 0) [] [] := ⟨o1, fun i hi => by simp at hi, fun i j u u' _ hu => by simp at hu⟩
  have G1 := grown_alloc g1
  clear g1 h1 hr o1
  go_wp2
  go_loopw [5, 6] (fun v q wr => ∃ (t : List (List Ev)) (us : List Value) (m k' : Nat), m + t.length = N + 1 ∧ q = .int .i64 m ∧ (∀ x ∈ t, x.length ≤ n ∧ ∀ y ∈ x, evF y = 0) ∧ OwnT wr w.heap.size v t us ∧ Src wr g A c l k' ∧ k' + 61 * m ≤ k + 1 + 61 * (N + 1) ∧ w.grownBy wr (some g)) (fun _ q _ => (intOf q).toNat)
  case atStart => exact ⟨[], [], N + 1, k + 1, rfl, by go_num, by simp, oT, S1, by omega, G1⟩
  case round =>
    obtain ⟨t, us, m, k', hm, rfl, hall, ho, hSr, hkk, hgr⟩ := hrel
    have HM := hide hm
    have hx1 : t.length ≤ 4 := by omega
    have hm1 : m ≤ 4 := by omega
    clear hm
    have hsz := hgr.size
    by_cases hlt : 0 < m
    · go_wp2_with fail
      refine (l2Steps_any g k' n A c l wr hSr (by omega) hn).mono ?_
      rintro e w1 ⟨es, D, d, rfl, hes, hev, hown, k2, hk2, hS1, hg1⟩
      have ho1 := ho.kept hg1 (fun b e => by simp at e; omega)
      have hfr := ho.fresh hown
      have hown1 := own_mono hown hsz
      have hgr1 := hgr.trans hg1
      have hsz1 := hgr1.size
      clear hg1
      go_wp2_with (at_builtin; refine wpList_append_own_at _ rfl _ _ 24 rfl w.heap.size 55 i0 (.slice none 0 0) 1 24 Tryz.underlying24 hi hz0 hz1 hz2 rfl (by decide) _ _ _ rfl (ho1.row.alloc _) ⟨w1.heap.size, 0, none⟩ 1 1 [.slice D es.length d] rfl rfl (cell_one_new _ _ _) (one_cellS _ _ _) (by unfold maxLen; omega) (by omega) (by simp; omega) ?_; intro v' w2 hown' hgrow _ hat)
      have hP := (ho1.alloc (.cells #[.slice D es.length d] 55)).push (es := es) (hown1.alloc _) hfr hown' hgrow hat
      have hbl : Below w.heap.size w1 w2 := ((Below.refl _ _).alloc hsz1 _).trans (grown_below (ho1.row.alloc (.cells #[.slice D es.length d] 55)) hgrow (by simp; omega) (Nat.le_refl _))
      have hgr2 : w.grownBy w2 (some g) := hgr1.andThen (grown_alloc hgrow) (fun j hj => .inl (ho1.row.lt j hj).1)
      clear hgrow hat
      go_roundw
      case rel => exact ⟨t ++ [es], us ++ [.slice D es.length d], m - 1, k2, by have := HM.out; simp; omega, by go_num, by intro y hy; rcases List.mem_append.1 hy with h | h; exact hall y h; simp at h; rw [h]; exact ⟨hes, hev⟩, hP, hS1.below hbl hgl, by omega, hgr2⟩
      case measure => simp [intOf]; omega
    · obtain ⟨D, d, hv⟩ := own_shape ho.row
      have HV := hide hv
      clear hv
      go_wp2
      go_ret
      have hn : t.length = N + 1 := by have := HM.out; omega
      have ho2 := ho
      rw [HV.out] at ho2
      exact ⟨t, us, D, d, congrArg Ending.returned HV.out, by omega, by omega, hall, ho2, k', by omega, hSr, hgr⟩
theorem l2Trace_any (g k n : Nat) (A : Option Addr) (c : Nat) (l : List Int) (w : World) (hS : Src w g A c l k) (hk : k ≤ 100) (hn : n ≤ 20) :
    Calls Tryz.prog 31 #[.pointer (some ⟨g, 0, none⟩), .int .i64 n] w fun e w' => ∃ t us D d, e = .returned (.slice D t.length d) ∧ 1 ≤ t.length ∧ t.length ≤ 4 ∧ (∀ x ∈ t, x.length ≤ n) ∧ OwnT w' w.heap.size (.slice D t.length d) t us ∧ Went w g A c l k 250 w' := by
  refine (l2TraceR_any g k n A c l w hS hk hn).mono ?_
  rintro e w1 ⟨t, us, D, d, h1, h2, h3, h4, h5⟩
  exact ⟨t, us, D, d, h1, h2, h3, fun x hx => (h4 x hx).1, h5⟩
end Go.Proofs.YtmdaianbhpppfaaGreatDoor
namespace Go.Proofs.YtmdaianbhpppfaaGreatDoor
open Go.RowKit

theorem made_nil (n : Nat) : (madeCells (Value.slice none 0 0).cells (n * 1)).toList = List.replicate n (Value.slice none 0 0) := by
  apply List.ext_getElem
  · simp [madeCells]
  · intro i h1 h2
    simp [madeCells, Value.cells, Nat.mod_one]
theorem rdT_nils {w : World} {base n : Nat} {A : Option Addr} {c : Nat} (h : w.ownsRow base 55 1 (.slice A n c) n (List.replicate n (Value.slice none 0 0))) : RdT w w.heap.size A (List.replicate n []) := by
  intro h0
  rw [List.length_replicate] at h0
  rcases h.2 with ⟨_, h''⟩ | ⟨g, cap, cur, h', _⟩
  · omega
  · simp only [Value.slice.injEq] at h'
    obtain ⟨rfl, _, rfl⟩ := h'
    refine ⟨g, 0, rfl, (h.lt g rfl).2, fun i hi => ?_⟩
    have hi' : i < n := by simpa using hi
    refine ⟨none, 0, ?_, by simp, by simp, by simpa using RdE.nil_⟩
    rw [Nat.zero_add, h.cellAt i (by omega), List.getElem?_replicate]
    simp [hi']
theorem OwnT.rd_ {w : World} {base n c : Nat} {A : Option Addr} {t : List (List Ev)} {us : List Value} (h : OwnT w base (.slice A n c) t us) (hn : n = t.length) : RdT w w.heap.size A t := by
  subst hn
  exact h.rd
/-- What the walk is left with: a trace to read, and the source gone on. -/
def BentPost (w : World) (g : Nat) (A : Option Addr) (c : Nat) (l : List Int) (k : Nat) (e : Ending) (w' : World) : Prop :=
  ∃ (t : List (List Ev)) (D : Option Addr) (d : Nat), e = .returned (.slice D t.length d) ∧ t.length ≤ 5 ∧ (∀ x ∈ t, x.length ≤ 20) ∧ (∀ w2 : World, w'.grownBy w2 (some g) → RdT w2 w2.heap.size D t) ∧ Went w g A c l k 260 w'
theorem set_len {t : List (List Ev)} {i n : Nat} {es : List Ev} (h : ∀ x ∈ t, x.length ≤ n) (he : es.length ≤ n) : ∀ x ∈ t.set i es, x.length ≤ n := fun x hx => by
  rcases List.mem_or_eq_of_mem_set hx with a | a
  · exact h x a
  · rw [a]; exact he

/-- The contract of the bent traces, as what draws on it asks. -/
def BentOk : Prop := ∀ (g k : Nat) (A : Option Addr) (c : Nat) (l : List Int) (w : World), Src w g A c l k → k ≤ 100 →
    Calls Tryz.prog 24 #[.pointer (some ⟨g, 0, none⟩)] w (BentPost w g A c l k)
end Go.Proofs.YtmdaianbhpppfaaGreatDoor
namespace Go.Proofs.YtmdaianbhpppfaaGreatDoor
open Go.RowKit

/-- Events to read, in new memory or none. -/
def EvsPost (w : World) (e : Ending) (w' : World) : Prop := ∃ (es : List Ev) (D : Option Addr) (d : Nat), e = .returned (.slice D es.length d) ∧ es.length ≤ 20 ∧ RdE w' w'.heap.size D es ∧ Below w.heap.size w w'
def TrPost (w : World) (e : Ending) (w' : World) : Prop := ∃ (t : List (List Ev)) (D : Option Addr) (d : Nat), e = .returned (.slice D t.length d) ∧ t.length ≤ 5 ∧ (∀ x ∈ t, x.length ≤ 20) ∧ RdT w' w'.heap.size D t ∧ Below w.heap.size w w'

def EvPost (w : World) (e : Ending) (w' : World) : Prop := ∃ k a v : Int, e = .returned (evV k a v) ∧ Below w.heap.size w w'

set_option maxHeartbeats 800000 in
theorem DrawEventFault_any (l : List Int) (A : Option Addr) (c : Nat) (w : World) (hl : l.length ≤ 1048576) (hR : Rd .u8 w w.heap.size A l) (b8 : B8 l) :
    Calls Tryz.prog 40 #[.slice A l.length c] w (EvPost w) := by
  obtain ⟨W, hW⟩ : ∃ W, W = w.alloc (Obj.cells #[Value.int .i64 0, .int .i64 0, .int .i64 0] 39) := ⟨_, rfl⟩
  have HW := hide hW
  have kr : Bk W w.heap.size #[.int .i64 0, .int .i64 0, .int .i64 0] 39 := by rw [hW]; exact Bk.new _ _ _
  have hRW : Rd .u8 W W.heap.size A l := by rw [hW]; exact (hR.alloc (Nat.le_refl _) _).lt
  have B0 : Below w.heap.size w W := by rw [hW]; exact (Below.refl _ _).alloc (Nat.le_refl _) _
  have z0 : w.heap.size < W.heap.size := by rw [hW]; simp
  clear hW
  go_enter Tryz.func40, Tryz.ntmps40
  go_wp2_with fail
  rw [← HW.out]
  refine (l1Source_any l A c W hRW b8 hl).mono ?_
  rintro e w1 ⟨rfl, S1, B1⟩
  have kr1 := kr.kept B1
  have X1 := B0.trans (B1.mono B0.size)
  go_wp2_with fail
  refine (l2Event_any _ _ A c l w1 S1 (by omega)).mono ?_
  rintro e w2 ⟨x, rfl, hx, k2, hk2, S2, g2⟩
  have kr2 := (kr1.grown g2 (by simp; omega)).alloc (.cells #[.int .i64 x.k, .int .i64 x.a, .int .i64 x.v] 39)
  have ke := Bk.new w2 #[.int .i64 x.k, .int .i64 x.a, .int .i64 x.v] 39
  have X2 := (X1.grown g2 X1.size (fun k hk => by simp at hk; omega)).alloc (by have := X1.size; have := g2.size; omega) (.cells #[.int .i64 x.k, .int .i64 x.a, .int .i64 x.v] 39)
  have S2' := S2.alloc (.cells #[.int .i64 x.k, .int .i64 x.a, .int .i64 x.v] 39)
  have z2 : W.heap.size < w2.heap.size := S2.lt
  go_wp2_with fail
  refine (l1Next_any _ _ 6 A c l _ S2' (by omega) (by omega) (by omega)).mono ?_
  rintro e w3 ⟨s, rfl, s0, s1, S3, g3⟩
  have kr3 := kr2.grown g3 (by simp; omega)
  have ke3 := ke.grown g3 (by simp; omega)
  have X3 := X2.grown g3 X2.size (fun k hk => by simp at hk; omega)
  clear kr kr1 kr2 ke X1 X2 S1 S2 S2' B1 g2 g3 s1
  by_cases e0 : s = 0
  · subst e0
    go_wp2_with fail
    refine (l1Pick_any _ _ _ [-1, 2] A c l _ _ (S3.alloc _) (by omega) (by simp) (by simp) (Bk.new _ _ _) (by have := S3.lt; omega)).mono ?_
    rintro e w4 ⟨r, rfl, hm, S4, g4⟩
    have kr4 := (kr3.alloc (.cells #[.int .i64 (-1), .int .i64 2] 2)).grown g4 (by simp; omega)
    have ke4 := (ke3.alloc (.cells #[.int .i64 (-1), .int .i64 2] 2)).grown g4 (by simp; omega)
    have X4 := (X3.alloc X3.size (.cells #[.int .i64 (-1), .int .i64 2] 2)).grown g4 (by have := X3.size; simp; omega) (fun k hk => by simp at hk; omega)
    have X := hide X4
    clear hm S4 g4 S3 X3 X4 kr3 ke3
    have a0 : w4.cell? ⟨w2.heap.size, 0, none⟩ = some (.int .i64 x.k) := (ke4.cell 0).trans rfl
    have a1 : w4.cell? ⟨w2.heap.size, 1, none⟩ = some (.int .i64 x.a) := (ke4.cell 1).trans rfl
    have a2 : w4.cell? ⟨w2.heap.size, 2, none⟩ = some (.int .i64 x.v) := (ke4.cell 2).trans rfl
    have c0 : w4.cell? ⟨w.heap.size, 0, none⟩ = some (.int .i64 0) := (kr4.cell 0).trans rfl
    have c1 : w4.cell? ⟨w.heap.size, 1, none⟩ = some (.int .i64 0) := (kr4.cell 1).trans rfl
    have c2 : w4.cell? ⟨w.heap.size, 2, none⟩ = some (.int .i64 0) := (kr4.cell 2).trans rfl
    have fa0 := ke4.frozen 0
    have fc0 := kr4.frozen 0
    have fa1 := ke4.frozen 1
    have fc1 := kr4.frozen 1
    have fa2 := ke4.frozen 2
    have fc2 := kr4.frozen 2
    clear ke4 kr4
    go_wp2
    refine bodyPost_ret (v := evV r x.a x.v) (by simp [results, Tryz.results40, go_sem, c0, c1, c2]) rfl ?_
    exact ⟨r, x.a, x.v, rfl, (((X.out.setCell (by simp only; omega) _).setCell (Nat.le_refl _) _).setCell (Nat.le_refl _) _).setCell (Nat.le_refl _) _⟩
  · by_cases e1 : s = 1
    · subst e1
      clear e0
      go_wp2_with fail
      refine (l1Pick_any _ _ _ [-1, 1000000] A c l _ _ (S3.alloc _) (by omega) (by simp) (by simp) (Bk.new _ _ _) (by have := S3.lt; omega)).mono ?_
      rintro e w4 ⟨r, rfl, hm, S4, g4⟩
      have kr4 := (kr3.alloc (.cells #[.int .i64 (-1), .int .i64 1000000] 2)).grown g4 (by simp; omega)
      have ke4 := (ke3.alloc (.cells #[.int .i64 (-1), .int .i64 1000000] 2)).grown g4 (by simp; omega)
      have X4 := (X3.alloc X3.size (.cells #[.int .i64 (-1), .int .i64 1000000] 2)).grown g4 (by have := X3.size; simp; omega) (fun k hk => by simp at hk; omega)
      have X := hide X4
      clear hm S4 g4 S3 X3 X4 kr3 ke3
      have a0 : w4.cell? ⟨w2.heap.size, 0, none⟩ = some (.int .i64 x.k) := (ke4.cell 0).trans rfl
      have a1 : w4.cell? ⟨w2.heap.size, 1, none⟩ = some (.int .i64 x.a) := (ke4.cell 1).trans rfl
      have a2 : w4.cell? ⟨w2.heap.size, 2, none⟩ = some (.int .i64 x.v) := (ke4.cell 2).trans rfl
      have c0 : w4.cell? ⟨w.heap.size, 0, none⟩ = some (.int .i64 0) := (kr4.cell 0).trans rfl
      have c1 : w4.cell? ⟨w.heap.size, 1, none⟩ = some (.int .i64 0) := (kr4.cell 1).trans rfl
      have c2 : w4.cell? ⟨w.heap.size, 2, none⟩ = some (.int .i64 0) := (kr4.cell 2).trans rfl
      have fa0 := ke4.frozen 0
      have fc0 := kr4.frozen 0
      have fa1 := ke4.frozen 1
      have fc1 := kr4.frozen 1
      have fa2 := ke4.frozen 2
      have fc2 := kr4.frozen 2
      clear ke4 kr4
      go_wp2
      refine bodyPost_ret (v := evV x.k r x.v) (by simp [results, Tryz.results40, go_sem, c0, c1, c2]) rfl ?_
      exact ⟨x.k, r, x.v, rfl, (((X.out.setCell (by simp only; omega) _).setCell (Nat.le_refl _) _).setCell (Nat.le_refl _) _).setCell (Nat.le_refl _) _⟩
    · by_cases e2 : s = 2
      · subst e2
        clear e0 e1
        go_wp2_with fail
        refine (l1Pick_any _ _ _ [-1, 1000000] A c l _ _ (S3.alloc _) (by omega) (by simp) (by simp) (Bk.new _ _ _) (by have := S3.lt; omega)).mono ?_
        rintro e w4 ⟨r, rfl, hm, S4, g4⟩
        have kr4 := (kr3.alloc (.cells #[.int .i64 (-1), .int .i64 1000000] 2)).grown g4 (by simp; omega)
        have ke4 := (ke3.alloc (.cells #[.int .i64 (-1), .int .i64 1000000] 2)).grown g4 (by simp; omega)
        have X4 := (X3.alloc X3.size (.cells #[.int .i64 (-1), .int .i64 1000000] 2)).grown g4 (by have := X3.size; simp; omega) (fun k hk => by simp at hk; omega)
        have X := hide X4
        clear hm S4 g4 S3 X3 X4 kr3 ke3
        have a0 : w4.cell? ⟨w2.heap.size, 0, none⟩ = some (.int .i64 x.k) := (ke4.cell 0).trans rfl
        have a1 : w4.cell? ⟨w2.heap.size, 1, none⟩ = some (.int .i64 x.a) := (ke4.cell 1).trans rfl
        have a2 : w4.cell? ⟨w2.heap.size, 2, none⟩ = some (.int .i64 x.v) := (ke4.cell 2).trans rfl
        have c0 : w4.cell? ⟨w.heap.size, 0, none⟩ = some (.int .i64 0) := (kr4.cell 0).trans rfl
        have c1 : w4.cell? ⟨w.heap.size, 1, none⟩ = some (.int .i64 0) := (kr4.cell 1).trans rfl
        have c2 : w4.cell? ⟨w.heap.size, 2, none⟩ = some (.int .i64 0) := (kr4.cell 2).trans rfl
        have fa0 := ke4.frozen 0
        have fc0 := kr4.frozen 0
        have fa1 := ke4.frozen 1
        have fc1 := kr4.frozen 1
        have fa2 := ke4.frozen 2
        have fc2 := kr4.frozen 2
        clear ke4 kr4
        go_wp2
        refine bodyPost_ret (v := evV x.k x.a r) (by simp [results, Tryz.results40, go_sem, c0, c1, c2]) rfl ?_
        exact ⟨x.k, x.a, r, rfl, (((X.out.setCell (by simp only; omega) _).setCell (Nat.le_refl _) _).setCell (Nat.le_refl _) _).setCell (Nat.le_refl _) _⟩
      · have b0 : (s == 0) = false := beq_eq_false_iff_ne.2 e0
        have b1 : (s == 1) = false := beq_eq_false_iff_ne.2 e1
        have b2 : (s == 2) = false := beq_eq_false_iff_ne.2 e2
        clear e0 e1 e2
        have X := hide X3
        clear S3 X3
        have a0 : w3.cell? ⟨w2.heap.size, 0, none⟩ = some (.int .i64 x.k) := (ke3.cell 0).trans rfl
        have a1 : w3.cell? ⟨w2.heap.size, 1, none⟩ = some (.int .i64 x.a) := (ke3.cell 1).trans rfl
        have a2 : w3.cell? ⟨w2.heap.size, 2, none⟩ = some (.int .i64 x.v) := (ke3.cell 2).trans rfl
        have c0 : w3.cell? ⟨w.heap.size, 0, none⟩ = some (.int .i64 0) := (kr3.cell 0).trans rfl
        have c1 : w3.cell? ⟨w.heap.size, 1, none⟩ = some (.int .i64 0) := (kr3.cell 1).trans rfl
        have c2 : w3.cell? ⟨w.heap.size, 2, none⟩ = some (.int .i64 0) := (kr3.cell 2).trans rfl
        have fa0 := ke3.frozen 0
        have fc0 := kr3.frozen 0
        have fa1 := ke3.frozen 1
        have fc1 := kr3.frozen 1
        have fa2 := ke3.frozen 2
        have fc2 := kr3.frozen 2
        clear ke3 kr3
        go_wp2
        refine bodyPost_ret (v := evV x.k x.a x.v) (by simp [results, Tryz.results40, go_sem, c0, c1, c2]) rfl ?_
        exact ⟨x.k, x.a, x.v, rfl, ((X.out.setCell (Nat.le_refl _) _).setCell (Nat.le_refl _) _).setCell (Nat.le_refl _) _⟩
end Go.Proofs.YtmdaianbhpppfaaGreatDoor
