/- Contracts of chapter 7's sizes and keeping together, in the model. -/
import Derived.Test.YtifijhfeeammkaaMsiG
import Derived.Deep.QuietTactic
import Derived.BigQuiet
namespace Go.Proofs.Ytifijhfeeammkaa
open Go.RowKit

/-- A machine's own block, wherever it lies. -/
structure MacAt (w : World) (g : Nat) (A : Option Addr) (c : Nat) (A' : Option Addr) (c' : Nat) (m : Mac) : Prop where
  c0 : w.cell? ⟨g, 0, none⟩ = some (.slice A m.cs.length c)
  c1 : w.cell? ⟨g, 1, none⟩ = some (.slice A' m.mem.length c')
theorem MacAt.below {w w' : World} {g B : Nat} {A A' : Option Addr} {c c' : Nat} {m : Mac} (h : MacAt w g A c A' c' m) (hb : Below B w w') (hg : g < B) : MacAt w' g A c A' c' m := ⟨(hb.cell hg).trans h.c0, (hb.cell hg).trans h.c1⟩
open Classical in
noncomputable def sizB (m : Mac) : Bool := if Siz m then true else false
theorem sizB_yes {m : Mac} (h : Siz m) : sizB m = true := if_pos h
theorem sizB_no {m : Mac} (h : ¬ Siz m) : sizB m = false := if_neg h
theorem getD0 {cs : List (List Ev)} (h : 0 < cs.length) : cs.getD 0 [] = cs[0] := by simp [h]

set_option maxRecDepth 100000 in
set_option maxHeartbeats 800000 in
theorem l7Sizes_any (m : Mac) (A A' : Option Addr) (c c' g : Nat) (w : World) (h1 : m.cs.length ≤ maxLen) (h2 : m.mem.length ≤ maxLen) (ha : MacAt w g A c A' c' m) (h : RdMac w w.heap.size A A' m) :
    Calls Try.prog 86 #[.pointer (some ⟨g, 0, none⟩)] w fun e w' => e = .returned (.bool (sizB m)) ∧ w = w' := by
  unfold maxLen at h1 h2
  obtain ⟨m0, m1⟩ := ha
  by_cases hn1 : m.cs.length < 1
  · rw [sizB_no (fun hh => by have := hh.1.1; omega)]
    go_enter Try.func86, Try.ntmps86
    go_wp2
    go_ret
    exact ⟨rfl, rfl⟩
  · by_cases hn4 : 4 < m.cs.length
    · rw [sizB_no (fun hh => by have := hh.1.2; omega)]
      go_enter Try.func86, Try.ntmps86
      go_wp2
      go_ret
      exact ⟨rfl, rfl⟩
    · by_cases hm : 32 < m.mem.length
      · rw [sizB_no (fun hh => by have := hh.2.1; omega)]
        go_enter Try.func86, Try.ntmps86
        go_wp2
        go_ret
        exact ⟨rfl, rfl⟩
      · obtain ⟨b, off, a, d, rfl, hbb, hc0, hle, hcm, hr⟩ := h.cs.get (i := 0) (by omega)
        have e0 := getD0 (cs := m.cs) (by omega)
        obtain ⟨L, hL⟩ : ∃ L, L = m.cs[0].length := ⟨_, rfl⟩
        rw [← hL] at hc0 hle
        rw [Nat.add_zero] at hc0
        have HL := hide (show (m.cs.getD 0 []).length = L by rw [e0, hL])
        clear hL e0 hr
        unfold maxLen at hcm
        go_enter Try.func86, Try.ntmps86
        go_wp2
        go_loop [39] (fun i => ∃ k : Nat, k ≤ m.cs.length ∧ i = .int .i64 k ∧ Hid (∀ j, (hj : j < m.cs.length) → j < k → m.cs[j].length = L)) (fun i => m.cs.length - (intOf i).toNat)
        case atStart => exact ⟨0, Nat.zero_le _, rfl, hide fun _ _ h => by omega⟩
        case round =>
          obtain ⟨k, hk, rfl, HR⟩ := hrel
          by_cases hlt : k < m.cs.length
          · obtain ⟨b', off', a', d', hA, _, hd0, hle', hcm', _⟩ := h.cs.get hlt
            cases hA
            unfold maxLen at hcm'
            by_cases he : m.cs[k].length = L
            · rw [he] at hd0 hle'
              have HR2 := hide (show ∀ j, (hj : j < m.cs.length) → j < k + 1 → m.cs[j].length = L from fun j hj hjk => by
                by_cases e : j = k
                · subst e; exact he
                · exact HR.out j hj (by omega))
              clear he
              go_wp2
              go_round
              case rel => exact ⟨k + 1, by omega, by go_num, HR2⟩
              case measure => simp [intOf]; omega
            · have hs : sizB m = false := sizB_no fun hh => he (by rw [hh.2.2.1 _ (List.getElem_mem hlt)]; exact HL.out)
              have HS := hide hs
              obtain ⟨R, hR⟩ : ∃ R, R = m.cs[k].length := ⟨_, rfl⟩
              rw [← hR] at hd0 he hle'
              have f0 : ((R : Int) == (L : Int)) = false := beq_eq_false_iff_ne.2 (by omega)
              have f1 : ((R : Int) != (L : Int)) = true := bne_iff_ne.2 (by omega)
              clear hs he hR
              go_wp2
              go_ret
              exact ⟨ret_bool (by rw [HS.out]), rfl⟩
          · have hall : ∀ l ∈ m.cs, l.length = L := fun l hl => by
              obtain ⟨j, hj, rfl⟩ := List.getElem_of_mem hl
              exact HR.out j hj (by omega)
            by_cases hL1 : 1 ≤ L
            · by_cases hL4 : L ≤ 4
              · have HS := hide (sizB_yes (m := m) ⟨by omega, by omega, fun l hl => by rw [HL.out]; exact hall l hl, by rw [HL.out]; exact hL1, by rw [HL.out]; exact hL4⟩)
                clear hall
                go_wp2
                go_ret
                exact ⟨ret_bool (by rw [HS.out] <;> (simp; omega)), rfl⟩
              · have HS := hide (sizB_no (m := m) fun hh => hL4 (by have := hh.2.2.2.2; rw [HL.out] at this; exact this))
                clear hall
                go_wp2
                go_ret
                exact ⟨ret_bool (by rw [HS.out] <;> (simp; omega)), rfl⟩
            · have HS := hide (sizB_no (m := m) fun hh => hL1 (by have := hh.2.2.2.1; rw [HL.out] at this; exact this))
              clear hall
              go_wp2
              go_ret
              exact ⟨ret_bool (by rw [HS.out] <;> (simp; omega)), rfl⟩
end Go.Proofs.Ytifijhfeeammkaa
