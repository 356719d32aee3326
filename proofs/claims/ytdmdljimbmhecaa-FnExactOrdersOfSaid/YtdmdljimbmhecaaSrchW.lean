/- The contract of listPlace in the program: where the list of an address stands, or would have to stand. -/
import Derived.Test.YtdmdljimbmhecaaWls
import Derived.Test.YtdmdljimbmhecaaOdm2
import Derived.Test.YtdmdljimbmhecaaCmp
import Derived.Lib.Hide
namespace Go.Proofs.Ytdmdljimbmhecaa
open Go.RowKit

theorem risO_mono {os : List Wls} (h : risO os) : ∀ p q (hp : p < os.length) (hq : q < os.length), p ≤ q → os[p].a ≤ os[q].a := fun p q hp hq hpq => by
  rcases Nat.lt_or_ge p q with hlt | hge
  · have := List.pairwise_iff_getElem.1 h p q hp hq hlt; omega
  · obtain rfl : p = q := by omega
    exact Int.le_refl _
/-- What a search has shut out. -/
def SrchW (os : List Wls) (t : Int) (lo hi : Nat) : Prop := (∀ p (hp : p < os.length), p < lo → os[p].a < t) ∧ (∀ p (hp : p < os.length), hi ≤ p → t ≤ os[p].a)
/-- Where it ends. -/
structure FoundW (os : List Wls) (t : Int) (i : Nat) (f : Bool) : Prop where
  le : i ≤ os.length
  low : ∀ p (hp : p < os.length), p < i → os[p].a < t
  high : ∀ p (hp : p < os.length), i ≤ p → t ≤ os[p].a
  hit : f = true ↔ ∃ x, os[i]? = some x ∧ x.a = t
theorem SrchW.found {os : List Wls} {t : Int} {i : Nat} {f : Bool} (h : SrchW os t i i) (hi : i ≤ os.length) (hf : f = true ↔ ∃ x, os[i]? = some x ∧ x.a = t) : FoundW os t i f := ⟨hi, h.1, h.2, hf⟩
theorem FoundW.yes {os : List Wls} {t : Int} {i : Nat} (h : FoundW os t i true) : ∃ (hi : i < os.length), os[i].a = t := by
  obtain ⟨x, h1, h2⟩ := h.hit.1 rfl
  have hi : i < os.length := by
    rcases Nat.lt_or_ge i os.length with a | a
    · exact a
    · rw [List.getElem?_eq_none a] at h1; cases h1
  rw [List.getElem?_eq_getElem hi] at h1
  cases h1
  exact ⟨hi, h2⟩
theorem FoundW.no {os : List Wls} {t : Int} {i : Nat} (h : FoundW os t i false) (hr : risO os) : ∀ w ∈ os, w.a ≠ t := fun w hw e => by
  obtain ⟨p, hp, rfl⟩ := List.getElem_of_mem hw
  rcases Nat.lt_or_ge p i with a | a
  · have := h.low p hp a; omega
  · rcases Nat.lt_or_ge i p with b | b
    · have h1 := h.high i (by omega) (Nat.le_refl _)
      have h2 := List.pairwise_iff_getElem.1 hr i p (by omega) hp b
      omega
    · obtain rfl : p = i := by omega
      have := h.hit.2 ⟨os[p], List.getElem?_eq_getElem hp, e⟩
      cases this

theorem byPlace_any (x : Wls) (a : Option Addr) (n c : Nat) (t : Int) (w : World) :
    Calls Try.prog 137 #[.agg #[.int .i64 x.a, .slice a n c], .int .i64 t] w fun e w' => e = .returned (.int .i64 (cmpI x.a t)) ∧ Below w.heap.size w w' := by
  go_enter Try.func137, Try.ntmps137
  go_wp2_with fail
  refine (compare_any x.a t _).mono ?_
  rintro e w1 ⟨rfl, rfl⟩
  go_wp2
  go_ret
  exact ⟨rfl, by go_grown⟩

set_option maxRecDepth 100000 in
set_option maxHeartbeats 1600000 in
theorem searchW_any (os : List Wls) (A : Option Addr) (c : Nat) (ta : Int) (w : World) (hb : os.length ≤ 1000000) (hr : risO os) (h : RdW w w.heap.size A os) :
    Calls Try.prog 136 #[.slice A os.length c, .int .i64 ta, .func (.func 137) #[] #[]] w fun e w' => ∃ i f, e = .returned (.tuple #[.int .i64 (i : Nat), .bool f]) ∧ FoundW os ta i f ∧ Below w.heap.size w w' := by
  have HM := hide (risO_mono hr)
  clear hr
  go_enter Try.func136, Try.ntmps136
  go_wp2
  go_loopw [9, 10] (fun s9 s10 wr => ∃ lo hi : Nat, s9 = .int .i64 lo ∧ s10 = .int .i64 hi ∧ lo ≤ hi ∧ hi ≤ os.length ∧ Below w.heap.size w wr ∧ Hid (SrchW os ta lo hi)) (fun s9 s10 _ => (intOf s10).toNat - (intOf s9).toNat)
  case atStart => exact ⟨0, os.length, rfl, rfl, Nat.zero_le _, Nat.le_refl _, Below.refl _ _, hide ⟨fun p hp h => by omega, fun p hp h => by omega⟩⟩
  case round =>
    obtain ⟨lo, hi, rfl, rfl, hlh, hin, hbw, HS⟩ := hrel
    by_cases hlt : lo < hi
    · obtain ⟨b, off, a, d, rfl, hbb, c0, c1, hle, hcm, hrd⟩ := (h.below hbw).get (i := (lo + hi) / 2) (by omega)
      obtain ⟨X, hX⟩ : ∃ X, X = os[(lo + hi) / 2]'(by omega) := ⟨_, rfl⟩
      rw [← hX] at c0 c1
      have HX := hide hX
      have i0 : (0 : Int) ≤ ((lo : Int) + (hi : Int)) / 2 := by omega
      have i1 : ((lo : Int) + (hi : Int)) / 2 < (os.length : Int) := by omega
      have i2 : (((lo : Int) + (hi : Int)) / 2).toNat = (lo + hi) / 2 := by omega
      clear hX hrd hle
      go_wp2_with fail
      refine (byPlace_any X a X.ids.length d ta _).mono ?_
      rintro e w1 ⟨rfl, b1⟩
      have B1 := hbw.trans (b1.mono hbw.size)
      clear c0 c1 hbw b1
      by_cases hx : X.a < ta
      · have e1 : decide (cmpI X.a ta < 0) = true := decide_eq_true (cmpI_lt.2 hx)
        have HN := hide (show SrchW os ta ((lo + hi) / 2 + 1) hi from ⟨fun p hp hpl => by
          have := HM.out p ((lo + hi) / 2) hp (by omega) (by omega)
          rw [← HX.out] at this
          omega, HS.out.2⟩)
        clear hx
        go_wp2
        go_roundw
        case rel => exact ⟨(lo + hi) / 2 + 1, hi, by rw [show ((lo : Int) + (hi : Int)) / 2 + 1 = (((lo + hi) / 2 + 1 : Nat) : Int) by omega], rfl, by omega, hin, B1, HN⟩
        case measure => simp [intOf]; omega
      · have e1 : decide (cmpI X.a ta < 0) = false := decide_eq_false (fun e => hx (cmpI_lt.1 e))
        have HN := hide (show SrchW os ta lo ((lo + hi) / 2) from ⟨HS.out.1, fun p hp hpl => by
          have := HM.out ((lo + hi) / 2) p (by omega) hp hpl
          rw [← HX.out] at this
          omega⟩)
        clear hx
        go_wp2
        go_roundw
        case rel => exact ⟨lo, (lo + hi) / 2, rfl, by rw [show ((lo : Int) + (hi : Int)) / 2 = (((lo + hi) / 2 : Nat) : Int) by omega], by omega, by omega, B1, HN⟩
        case measure => simp [intOf]; omega
    · obtain rfl : hi = lo := by omega
      by_cases hn : hi < os.length
      · obtain ⟨b, off, a, d, rfl, hbb, c0, c1, hle, hcm, hrd⟩ := (h.below hbw).get hn
        have f0 : decide ((hi : Int) < (os.length : Int)) = true := decide_eq_true (by omega)
        have HF := hide (show FoundW os ta hi (decide (cmpI os[hi].a ta = 0)) from HS.out.found hin (by
          rw [decide_eq_true_eq, cmpI_eq, List.getElem?_eq_getElem hn]
          exact ⟨fun e => ⟨_, rfl, e⟩, fun ⟨_, e1, e2⟩ => by cases e1; exact e2⟩))
        obtain ⟨X, hX⟩ : ∃ X, X = os[hi] := ⟨_, rfl⟩
        rw [← hX] at c0 c1 HF hle hrd
        clear hX hle hrd
        go_wp2_with fail
        refine (byPlace_any X a X.ids.length d ta _).mono ?_
        rintro e w1 ⟨rfl, b1⟩
        have B1 := hbw.trans (b1.mono hbw.size)
        go_wp2
        go_ret2
        exact ⟨hi, _, by congr 1, HF.out, B1⟩
      · have HF := hide (show FoundW os ta hi false from HS.out.found hin (by
          rw [List.getElem?_eq_none (by omega)]
          exact ⟨fun e => (by cases e), fun ⟨_, e1, _⟩ => (by cases e1)⟩))
        go_wp2
        go_ret2
        exact ⟨hi, false, rfl, HF.out, hbw⟩
theorem placeW_any (os : List Wls) (A : Option Addr) (c : Nat) (ta : Int) (w : World) (hb : os.length ≤ 1000000) (hr : risO os) (h : RdW w w.heap.size A os) :
    Calls Try.prog 124 #[.slice A os.length c, .int .i64 ta] w fun e w' => ∃ i f, e = .returned (.tuple #[.int .i64 (i : Nat), .bool f]) ∧ FoundW os ta i f ∧ Below w.heap.size w w' := by
  go_enter Try.func124, Try.ntmps124
  go_wp2_with fail
  refine (searchW_any os A c ta w hb hr h).mono ?_
  rintro e w1 ⟨i, f, rfl, hF, hb1⟩
  go_wp2
  go_ret2
  exact ⟨i, f, rfl, hF, hb1⟩
end Go.Proofs.Ytdmdljimbmhecaa
