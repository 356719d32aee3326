/- Contracts of cmp.Compare, of the closure that compares cells, and of slices.BinarySearchFunc at cells, in the program. -/
import Derived.Test.YtifijhfeeammkaaCelS
import Derived.Test.YtifijhfeeammkaaMsiP
import Derived.Deep.RegionHeld3
import Derived.Deep.DeepCutAuto
import Derived.BigQuiet
import Derived.Lib.Hide
namespace Go.Proofs.Ytifijhfeeammkaa
open Go.RowKit

def cmpI (x y : Int) : Int := if x < y then -1 else if y < x then 1 else 0
theorem cmpI_lt {x y : Int} : cmpI x y < 0 ↔ x < y := by unfold cmpI; split <;> (try split) <;> omega
theorem cmpI_eq {x y : Int} : cmpI x y = 0 ↔ x = y := by unfold cmpI; split <;> (try split) <;> omega
theorem isNaN_any (x : Int) (w : World) :
    Calls Try.prog 157 #[.int .i64 x] w fun e w' => e = .returned (.bool false) ∧ w = w' := by
  go_enter Try.func157, Try.ntmps157
  go_wp2
  go_ret
  exact ⟨by simp, rfl⟩
theorem compare_any (x y : Int) (w : World) :
    Calls Try.prog 153 #[.int .i64 x, .int .i64 y] w fun e w' => e = .returned (.int .i64 (cmpI x y)) ∧ w = w' := by
  by_cases h1 : x < y
  · rw [show cmpI x y = -1 by unfold cmpI; rw [if_pos h1]]
    go_enter Try.func153, Try.ntmps153
    go_wp2_with fail
    refine (isNaN_any x w).mono ?_
    rintro e w1 ⟨rfl, rfl⟩
    go_wp2_with fail
    refine (isNaN_any y w).mono ?_
    rintro e w1 ⟨rfl, rfl⟩
    go_wp2
    go_ret
    exact ⟨rfl, rfl⟩
  · by_cases h2 : y < x
    · rw [show cmpI x y = 1 by unfold cmpI; rw [if_neg h1, if_pos h2]]
      go_enter Try.func153, Try.ntmps153
      go_wp2_with fail
      refine (isNaN_any x w).mono ?_
      rintro e w1 ⟨rfl, rfl⟩
      go_wp2_with fail
      refine (isNaN_any y w).mono ?_
      rintro e w1 ⟨rfl, rfl⟩
      go_wp2
      go_ret
      exact ⟨rfl, rfl⟩
    · rw [show cmpI x y = 0 by unfold cmpI; rw [if_neg h1, if_neg h2]]
      go_enter Try.func153, Try.ntmps153
      go_wp2_with fail
      refine (isNaN_any x w).mono ?_
      rintro e w1 ⟨rfl, rfl⟩
      go_wp2_with fail
      refine (isNaN_any y w).mono ?_
      rintro e w1 ⟨rfl, rfl⟩
      go_wp2
      go_ret
      exact ⟨rfl, rfl⟩
theorem byAddr_any (x1 x2 y1 y2 : Int) (w : World) :
    Calls Try.prog 152 #[.agg #[.int .i64 x1, .int .i64 x2], .agg #[.int .i64 y1, .int .i64 y2]] w fun e w' => e = .returned (.int .i64 (cmpI x1 y1)) ∧ Below w.heap.size w w' := by
  go_enter Try.func152, Try.ntmps152
  go_wp2_with fail
  refine (compare_any x1 y1 _).mono ?_
  rintro e w1 ⟨rfl, rfl⟩
  go_wp2
  go_ret
  exact ⟨rfl, by go_grown⟩

theorem rise_mono {l : List Cel} (h : rise l = true) : ∀ p q (hp : p < l.length) (hq : q < l.length), p ≤ q → l[p].a ≤ l[q].a := by
  induction l with
  | nil => intro p q hp; simp at hp
  | cons c r ih =>
    intro p q hp hq hpq
    rcases p with _ | p
    · rcases q with _ | q
      · exact Int.le_refl _
      · have := rise_lt h (r[q]'(by simp at hq; omega)) (List.getElem_mem _)
        simp only [List.getElem_cons_zero, List.getElem_cons_succ]
        omega
    · rcases q with _ | q
      · omega
      · simp only [List.getElem_cons_succ]
        exact ih (rise_tail h) p q (by simp at hp; omega) (by simp at hq; omega) (by omega)
/-- What a search has shut out. -/
def Srch (mem : List Cel) (t : Int) (lo hi : Nat) : Prop := (∀ p (hp : p < mem.length), p < lo → mem[p].a < t) ∧ (∀ p (hp : p < mem.length), hi ≤ p → t ≤ mem[p].a)
/-- Where it ends. -/
structure Found (mem : List Cel) (t : Int) (i : Nat) (f : Bool) : Prop where
  le : i ≤ mem.length
  low : ∀ c ∈ mem.take i, c.a < t
  high : ∀ c ∈ mem.drop i, t ≤ c.a
  hit : f = true ↔ ∃ c, mem[i]? = some c ∧ c.a = t
theorem Srch.found {mem : List Cel} {t : Int} {i : Nat} {f : Bool} (h : Srch mem t i i) (hi : i ≤ mem.length) (hf : f = true ↔ ∃ c, mem[i]? = some c ∧ c.a = t) : Found mem t i f :=
  ⟨hi, fun c hc => by
    obtain ⟨p, hp, rfl⟩ := List.getElem_of_mem hc
    rw [List.getElem_take]
    exact h.1 p _ (by simp at hp; omega), fun c hc => by
    obtain ⟨p, hp, rfl⟩ := List.getElem_of_mem hc
    rw [List.getElem_drop]
    exact h.2 _ _ (by omega), hf⟩

set_option maxRecDepth 100000 in
set_option maxHeartbeats 1600000 in
theorem search_any (mem : List Cel) (A : Option Addr) (c : Nat) (ta tv : Int) (w : World) (hb : mem.length ≤ 1000000) (hr : rise mem = true) (h : RdC w w.heap.size A mem) :
    Calls Try.prog 151 #[.slice A mem.length c, .agg #[.int .i64 ta, .int .i64 tv], .func (.func 152) #[] #[]] w fun e w' => ∃ i f, e = .returned (.tuple #[.int .i64 (i : Nat), .bool f]) ∧ Found mem ta i f ∧ Below w.heap.size w w' := by
  have kb := Bk.new w #[.int .i64 ta, .int .i64 tv] 120
  have hbw := (Below.refl w.heap.size w).alloc (Nat.le_refl _) (Obj.cells #[.int .i64 ta, .int .i64 tv] 120)
  have HM := hide (rise_mono hr)
  clear hr
  go_enter Try.func151, Try.ntmps151
  go_wp2
  go_loopw [9, 10] (fun s9 s10 wr => ∃ lo hi : Nat, s9 = .int .i64 lo ∧ s10 = .int .i64 hi ∧ lo ≤ hi ∧ hi ≤ mem.length ∧ Below w.heap.size w wr ∧ Bk wr w.heap.size #[.int .i64 ta, .int .i64 tv] 120 ∧ Hid (Srch mem ta lo hi)) (fun s9 s10 _ => (intOf s10).toNat - (intOf s9).toNat)
  case atStart => exact ⟨0, mem.length, rfl, rfl, Nat.zero_le _, Nat.le_refl _, hbw, kb, hide ⟨fun p hp h => by omega, fun p hp h => by omega⟩⟩
  case round =>
    clear kb hbw
    obtain ⟨lo, hi, rfl, rfl, hlh, hin, hbw, kb, HS⟩ := hrel
    have q0 := (kb.cell 0).trans (rfl : _ = some (Value.int .i64 ta))
    have q1 := (kb.cell 1).trans (rfl : _ = some (Value.int .i64 tv))
    by_cases hlt : lo < hi
    · obtain ⟨b, off, rfl, hbb, c0, c1⟩ := (h.below hbw).get (i := (lo + hi) / 2) (by omega)
      obtain ⟨X, hX⟩ : ∃ X, X = mem[(lo + hi) / 2]'(by omega) := ⟨_, rfl⟩
      rw [← hX] at c0 c1
      have HX := hide hX
      have i0 : (0 : Int) ≤ ((lo : Int) + (hi : Int)) / 2 := by omega
      have i1 : ((lo : Int) + (hi : Int)) / 2 < (mem.length : Int) := by omega
      have i2 : (((lo : Int) + (hi : Int)) / 2).toNat = (lo + hi) / 2 := by omega
      clear hX
      go_wp2_with fail
      go_cut [31] (fun s wx => s = .bool (decide (cmpI X.a ta < 0)) ∧ Below wr.heap.size wr wx)
      case first =>
        go_region_held3 (fun w' => w'.cell? ⟨w.heap.size, 0, none⟩ = some (Value.int .i64 ta) ∧ w'.cell? ⟨w.heap.size, 1, none⟩ = some (Value.int .i64 tv) ∧ w'.cell? ⟨b, off + (lo + hi) / 2 * 2, none⟩ = some (Value.int .i64 X.a) ∧ w'.cell? ⟨b, off + (lo + hi) / 2 * 2 + 1, none⟩ = some (Value.int .i64 X.v) ∧ Below wr.heap.size wr w')
          (first | assumption | exact ⟨q0, q1, c0, c1, (Below.refl _ _).drew⟩ | (go_split_ands; exact ⟨cell_kept (by assumption) (by assumption), cell_kept (by assumption) (by assumption), cell_kept (by assumption) (by assumption), cell_kept (by assumption) (by assumption), Below.trans (by assumption) (Below.mono (by assumption) (Below.size (by assumption)))⟩))
          (first
            | (go_at_call 152; (with_reducible refine (byAddr_any _ _ _ _ _).mono ?_); rintro e wa ⟨rfl, ba⟩))
        all_goals
          go_wp2_with fail
          go_meet
          exact ⟨rfl, by go_split_ands; assumption⟩
      case rest =>
        obtain ⟨rfl, C1⟩ := hcut
        have B1 := hbw.trans (C1.mono hbw.size)
        have K1 := kb.kept C1
        clear q0 q1 c0 c1 C1 hbw kb
        by_cases hx : X.a < ta
        · have e1 : decide (cmpI X.a ta < 0) = true := decide_eq_true (cmpI_lt.2 hx)
          have HN := hide (show Srch mem ta ((lo + hi) / 2 + 1) hi from ⟨fun p hp hpl => by
            have := HM.out p ((lo + hi) / 2) hp (by omega) (by omega)
            rw [← HX.out] at this
            omega, HS.out.2⟩)
          rw [e1]
          clear e1 hx
          go_wp2
          go_roundw
          case rel => exact ⟨(lo + hi) / 2 + 1, hi, by rw [show ((lo : Int) + (hi : Int)) / 2 + 1 = (((lo + hi) / 2 + 1 : Nat) : Int) by omega], rfl, by omega, hin, B1, K1, HN⟩
          case measure => simp [intOf]; omega
        · have e1 : decide (cmpI X.a ta < 0) = false := decide_eq_false (fun e => hx (cmpI_lt.1 e))
          have HN := hide (show Srch mem ta lo ((lo + hi) / 2) from ⟨HS.out.1, fun p hp hpl => by
            have := HM.out ((lo + hi) / 2) p (by omega) hp hpl
            rw [← HX.out] at this
            omega⟩)
          rw [e1]
          clear e1 hx
          go_wp2
          go_roundw
          case rel => exact ⟨lo, (lo + hi) / 2, rfl, by rw [show ((lo : Int) + (hi : Int)) / 2 = (((lo + hi) / 2 : Nat) : Int) by omega], by omega, by omega, B1, K1, HN⟩
          case measure => simp [intOf]; omega
    · obtain rfl : hi = lo := by omega
      by_cases hn : hi < mem.length
      · obtain ⟨b, off, rfl, hbb, c0, c1⟩ := (h.below hbw).get hn
        have f0 : decide ((hi : Int) < (mem.length : Int)) = true := decide_eq_true (by omega)
        have HF := hide (show Found mem ta hi (decide (cmpI mem[hi].a ta = 0)) from HS.out.found hin (by
          rw [decide_eq_true_eq, cmpI_eq, List.getElem?_eq_getElem hn]
          exact ⟨fun e => ⟨_, rfl, e⟩, fun ⟨_, e1, e2⟩ => by cases e1; exact e2⟩))
        obtain ⟨X, hX⟩ : ∃ X, X = mem[hi] := ⟨_, rfl⟩
        rw [← hX] at c0 c1 HF
        clear hX
        go_wp2_with fail
        go_cut [6, 7] (fun s6 s7 wx => s6 = .int .i64 hi ∧ s7 = .bool (decide (cmpI X.a ta = 0)) ∧ Below wr.heap.size wr wx)
        case first =>
          go_region_held3 (fun w' => w'.cell? ⟨w.heap.size, 0, none⟩ = some (Value.int .i64 ta) ∧ w'.cell? ⟨w.heap.size, 1, none⟩ = some (Value.int .i64 tv) ∧ w'.cell? ⟨b, off + hi * 2, none⟩ = some (Value.int .i64 X.a) ∧ w'.cell? ⟨b, off + hi * 2 + 1, none⟩ = some (Value.int .i64 X.v) ∧ Below wr.heap.size wr w')
            (first | assumption | exact ⟨q0, q1, c0, c1, (Below.refl _ _).drew⟩ | (go_split_ands; exact ⟨cell_kept (by assumption) (by assumption), cell_kept (by assumption) (by assumption), cell_kept (by assumption) (by assumption), cell_kept (by assumption) (by assumption), Below.trans (by assumption) (Below.mono (by assumption) (Below.size (by assumption)))⟩))
            (first
              | (go_at_call 152; (with_reducible refine (byAddr_any _ _ _ _ _).mono ?_); rintro e wa ⟨rfl, ba⟩))
          all_goals
            go_wp2_with fail
            go_meet
            exact ⟨rfl, congrArg Value.bool (Bool.eq_iff_iff.2 (by simp)), by go_split_ands; assumption⟩
        case rest =>
          obtain ⟨rfl, rfl, C1⟩ := hcut
          go_wp2
          go_ret2
          exact ⟨hi, _, rfl, HF.out, hbw.trans (C1.mono hbw.size)⟩
      · have HF := hide (show Found mem ta hi false from HS.out.found hin (by
          rw [List.getElem?_eq_none (by omega)]
          exact ⟨fun e => (by cases e), fun ⟨_, e1, _⟩ => (by cases e1)⟩))
        go_wp2
        go_quiet (fail)
        go_wp2
        go_ret2
        exact ⟨hi, false, rfl, HF.out, below_drewN hbw _⟩
end Go.Proofs.Ytifijhfeeammkaa
