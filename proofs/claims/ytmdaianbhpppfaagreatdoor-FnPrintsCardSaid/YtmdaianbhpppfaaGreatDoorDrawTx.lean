/- The contracts of the draws of chapter 5. -/
import Derived.Test.YtmdaianbhpppfaaGreatDoorGDrawT
import Derived.Test.YtmdaianbhpppfaaGreatDoorBentK
import Derived.Test.YtmdaianbhpppfaaGreatDoorGTxB
import Derived.Test.YtmdaianbhpppfaaGreatDoorGHeld
import Derived.BigQuiet
namespace Go.Proofs.YtmdaianbhpppfaaGreatDoor
open Go.RowKit

/-- A string to read. -/
def StPost (m : Nat) (w : World) (e : Ending) (w' : World) : Prop := ∃ s : List Int, e = .returned (.string (strOfNums s)) ∧ B8 s ∧ s.length ≤ m ∧ Below w.heap.size w w'
def NumPost (w : World) (e : Ending) (w' : World) : Prop := ∃ n : Int, e = .returned (.int .i64 n) ∧ -1 ≤ n ∧ n ≤ 1000000 ∧ Below w.heap.size w w'
def shortStr (m : Nat) : Value → Bool
  | .string s => decide (s.size ≤ m)
  | _ => false
theorem pick_str {cs : Array Value} {m q : Nat} (h : cs.toList.all (shortStr m) = true) (hq : q < cs.size) : ∃ s : List Int, cs[q]? = some (.string (strOfNums s)) ∧ B8 s ∧ s.length ≤ m := by
  have h1 := List.all_eq_true.1 h cs[q] (by simp)
  rw [Array.getElem?_eq_getElem hq]
  generalize cs[q] = v at h1
  cases v with
  | string s =>
    refine ⟨numsOf s, by rw [numsOf_str], numsOf_B8 s, ?_⟩
    have h2 : s.size ≤ m := of_decide_eq_true h1
    have h3 := strOfNums_size (numsOf s)
    rw [numsOf_str] at h3
    omega
  | _ => cases h1
theorem evsF_ok : ∀ {es : List Ev}, (∀ e ∈ es, evF e = 0) → evsF es = 0
  | [], _ => rfl
  | e :: r, h => by
    rw [evsF, if_pos (h e (List.mem_cons_self ..))]
    exact evsF_ok fun x hx => h x (List.mem_cons_of_mem _ hx)
theorem stsF_ok : ∀ {t : List (List Ev)}, (∀ l ∈ t, stF l = 0) → stsF t = 0
  | [], _ => rfl
  | l :: r, h => by
    rw [stsF, if_pos (h l (List.mem_cons_self ..))]
    exact stsF_ok fun x hx => h x (List.mem_cons_of_mem _ hx)

theorem DrawPrintTrace_any (HB : BentOk) (l : List Int) (A : Option Addr) (c : Nat) (w : World) (hl : l.length ≤ 1048576) (hR : Rd .u8 w w.heap.size A l) (b8 : B8 l) :
    Calls Tryz.prog 5 #[.slice A l.length c] w (TrPost w) := by
  go_enter Tryz.func5, Tryz.ntmps5
  go_wp2_with fail
  refine (l1Source_any l A c w hR b8 hl).mono ?_
  rintro e w1 ⟨rfl, S1, B1⟩
  go_wp2_with fail
  refine (HB _ _ A c l w1 S1 (by omega)).mono ?_
  rintro e w2 ⟨t, D, d, rfl, ht, hall, hT, k2, hk2, S2, g2⟩
  have B2 := grown_from B1 g2 B1.size (Nat.le_refl _)
  go_wp2
  go_ret
  exact ⟨t, D, d, rfl, ht, hall, hT _ (World.grownBy.refl _ _), B2⟩
theorem DrawHexOf_any (l : List Int) (A : Option Addr) (c : Nat) (w : World) (hl : l.length ≤ 1048576) (hR : Rd .u8 w w.heap.size A l) (b8 : B8 l) :
    Calls Tryz.prog 9 #[.slice A l.length c] w (NumPost w) := by
  go_enter Tryz.func9, Tryz.ntmps9
  go_wp2_with fail
  refine (l1Source_any l A c w hR b8 hl).mono ?_
  rintro e w1 ⟨rfl, S1, B1⟩
  go_wp2_with fail
  refine (l1Pick_any _ _ _ [0, 9, 10, 15, 16, 255, 999999, 1000000, -1] A c l _ _ (S1.alloc _) (by omega) (by simp) (by simp) (Bk.new _ _ _) (by have := S1.lt; omega)).mono ?_
  rintro e w2 ⟨n, rfl, hn, S2, g2⟩
  have B2 := grown_from B1 (grown_alloc g2) B1.size (Nat.le_refl _)
  have hn' : -1 ≤ n ∧ n ≤ 1000000 := by simp at hn; omega
  clear hn
  go_wp2
  go_ret
  exact ⟨n, rfl, hn'.1, hn'.2, B2⟩
theorem DrawEventText_any (l : List Int) (A : Option Addr) (c : Nat) (w : World) (hl : l.length ≤ 1048576) (hR : Rd .u8 w w.heap.size A l) (b8 : B8 l) :
    Calls Tryz.prog 14 #[.slice A l.length c] w (EvPost w) := by
  obtain ⟨W, hW⟩ : ∃ W, W = w.alloc (Obj.cells #[Value.int .i64 0, .int .i64 0, .int .i64 0] 39) := ⟨_, rfl⟩
  have HW := hide hW
  have hRW : Rd .u8 W W.heap.size A l := by rw [hW]; exact (hR.alloc (Nat.le_refl _) _).lt
  clear hW
  go_enter Tryz.func14, Tryz.ntmps14
  go_wp2_with fail
  rw [← HW.out]
  refine (DrawEventFault_any l A c W hl hRW b8).mono ?_
  rintro e w1 ⟨k, a, v, rfl, hb⟩
  have r0 := (W_cell HW.out hb 0).trans (rfl : _ = some (Value.int .i64 0))
  have r1 := (W_cell HW.out hb 1).trans (rfl : _ = some (Value.int .i64 0))
  have r2 := (W_cell HW.out hb 2).trans (rfl : _ = some (Value.int .i64 0))
  have f0 := W_frozen HW.out hb 0
  have f1 := W_frozen HW.out hb 1
  have f2 := W_frozen HW.out hb 2
  have hbw := W_below HW.out hb
  clear hb
  go_wp2
  refine bodyPost_ret (v := evV k a v) (by simp [results, Tryz.results14, go_sem, r0, r1, r2]) rfl ?_
  exact ⟨k, a, v, rfl, ((hbw.setCell (p := ⟨w.heap.size, 0, none⟩) (Nat.le_refl _) _).setCell (p := ⟨w.heap.size, 1, none⟩) (Nat.le_refl _) _).setCell (p := ⟨w.heap.size, 2, none⟩) (Nat.le_refl _) _⟩

set_option maxRecDepth 100000 in
set_option maxHeartbeats 800000 in
theorem DrawReadHex_any (l : List Int) (A : Option Addr) (c : Nat) (w : World) (hl : l.length ≤ 1048576) (hR : Rd .u8 w w.heap.size A l) (b8 : B8 l) :
    Calls Tryz.prog 11 #[.slice A l.length c] w (StPost 20 w) := by
  have PS := hide (fun q (hq : q < 15) => pick_str (cs := #[.string { data := #[48, 120, 48] }, .string { data := #[48, 120, 49, 102] }, .string { data := #[48, 120, 102, 52, 50, 51, 102] }, .string { data := #[48, 120, 102, 52, 50, 52, 48] }, .string { data := #[48, 120, 48, 49] }, .string { data := #[48, 120] }, .string { data := #[120, 49] }, .string { data := #[48, 88, 49] }, .string { data := #[49, 102] }, .string { data := #[48, 120, 49, 70] }, .string { data := #[48, 120, 49, 50, 51, 52, 53] }, .string { data := #[48, 120, 103] }, .string { data := #[48, 120, 102, 102, 102, 102, 102] }, .string { data := #[48, 120, 49, 50, 51, 52, 53, 54] }, .string { data := #[] }]) (m := 20) (q := q) (by rfl) hq)
  obtain ⟨cs, hcs⟩ : ∃ cs : Array Value, cs = #[.string { data := #[48, 120, 48] }, .string { data := #[48, 120, 49, 102] }, .string { data := #[48, 120, 102, 52, 50, 51, 102] }, .string { data := #[48, 120, 102, 52, 50, 52, 48] }, .string { data := #[48, 120, 48, 49] }, .string { data := #[48, 120] }, .string { data := #[120, 49] }, .string { data := #[48, 88, 49] }, .string { data := #[49, 102] }, .string { data := #[48, 120, 49, 70] }, .string { data := #[48, 120, 49, 50, 51, 52, 53] }, .string { data := #[48, 120, 103] }, .string { data := #[48, 120, 102, 102, 102, 102, 102] }, .string { data := #[48, 120, 49, 50, 51, 52, 53, 54] }, .string { data := #[] }] := ⟨_, rfl⟩
  rw [← hcs] at PS
  obtain ⟨W, hW⟩ : ∃ W, W = w.alloc (.cells cs 9) := ⟨_, rfl⟩
  have B0 : Below w.heap.size w W := by rw [hW]; exact (Below.refl _ _).alloc (Nat.le_refl _) _
  have kb : Bk W w.heap.size cs 9 := by rw [hW]; exact Bk.new _ _ _
  have hRW : Rd .u8 W W.heap.size A l := by rw [hW]; exact (hR.alloc (Nat.le_refl _) _).lt
  have HC := hide hcs
  have HW := hide hW
  clear hcs hW
  go_enter Tryz.func11, Tryz.ntmps11
  go_wp2_with fail
  rw [← HC.out, ← HW.out]
  refine (l1Source_any l A c W hRW b8 hl).mono ?_
  rintro e w1 ⟨rfl, S1, B1⟩
  have kb1 := kb.kept B1
  have B2 := B0.trans (B1.mono B0.size)
  have hlt := kb.lt
  clear B0 B1 kb hRW HC
  go_wp2_with fail
  refine (l1Next_any _ _ 15 A c l _ S1 (by omega) (by omega) (by omega)).mono ?_
  rintro e w2 ⟨r, rfl, r0, r1, S2, g2⟩
  have hr : r < 15 := by omega
  obtain ⟨q, rfl⟩ := Int.eq_ofNat_of_zero_le r0
  obtain ⟨s, hs, s8, sl⟩ := PS.out q (by omega)
  have hc := ((kb1.grown g2 (by simp only [ne_eq, Option.some.injEq]; omega)).cell q).trans hs
  have B3 := B2.grown g2 B2.size (fun k hk => by simp at hk; omega)
  clear r1 g2 S2 S1 kb1 B2 PS hs
  go_wp2
  go_ret
  exact ⟨s, rfl, s8, sl, B3⟩

set_option maxRecDepth 100000 in
set_option maxHeartbeats 800000 in
theorem DrawNumberOf_any (l : List Int) (A : Option Addr) (c : Nat) (w : World) (hl : l.length ≤ 1048576) (hR : Rd .u8 w w.heap.size A l) (b8 : B8 l) :
    Calls Tryz.prog 13 #[.slice A l.length c] w (StPost 20 w) := by
  have PS := hide (fun q (hq : q < 12) => pick_str (cs := #[.string { data := #[48] }, .string { data := #[53] }, .string { data := #[45, 53] }, .string { data := #[48, 48] }, .string { data := #[48, 48, 55] }, .string { data := #[] }, .string { data := #[57, 57, 57, 57, 57, 57] }, .string { data := #[49, 48, 48, 48, 48, 48, 48] }, .string { data := #[120] }, .string { data := #[49, 120] }, .string { data := #[49, 48] }, .string { data := #[97] }]) (m := 20) (q := q) (by rfl) hq)
  obtain ⟨cs, hcs⟩ : ∃ cs : Array Value, cs = #[.string { data := #[48] }, .string { data := #[53] }, .string { data := #[45, 53] }, .string { data := #[48, 48] }, .string { data := #[48, 48, 55] }, .string { data := #[] }, .string { data := #[57, 57, 57, 57, 57, 57] }, .string { data := #[49, 48, 48, 48, 48, 48, 48] }, .string { data := #[120] }, .string { data := #[49, 120] }, .string { data := #[49, 48] }, .string { data := #[97] }] := ⟨_, rfl⟩
  rw [← hcs] at PS
  obtain ⟨W, hW⟩ : ∃ W, W = w.alloc (.cells cs 9) := ⟨_, rfl⟩
  have B0 : Below w.heap.size w W := by rw [hW]; exact (Below.refl _ _).alloc (Nat.le_refl _) _
  have kb : Bk W w.heap.size cs 9 := by rw [hW]; exact Bk.new _ _ _
  have hRW : Rd .u8 W W.heap.size A l := by rw [hW]; exact (hR.alloc (Nat.le_refl _) _).lt
  have HC := hide hcs
  have HW := hide hW
  clear hcs hW
  go_enter Tryz.func13, Tryz.ntmps13
  go_wp2_with fail
  rw [← HC.out, ← HW.out]
  refine (l1Source_any l A c W hRW b8 hl).mono ?_
  rintro e w1 ⟨rfl, S1, B1⟩
  have kb1 := kb.kept B1
  have B2 := B0.trans (B1.mono B0.size)
  have hlt := kb.lt
  clear B0 B1 kb hRW HC
  go_wp2_with fail
  refine (l1Next_any _ _ 12 A c l _ S1 (by omega) (by omega) (by omega)).mono ?_
  rintro e w2 ⟨r, rfl, r0, r1, S2, g2⟩
  have hr : r < 12 := by omega
  obtain ⟨q, rfl⟩ := Int.eq_ofNat_of_zero_le r0
  obtain ⟨s, hs, s8, sl⟩ := PS.out q (by omega)
  have hc := ((kb1.grown g2 (by simp only [ne_eq, Option.some.injEq]; omega)).cell q).trans hs
  have B3 := B2.grown g2 B2.size (fun k hk => by simp at hk; omega)
  clear r1 g2 S2 S1 kb1 B2 PS hs
  go_wp2
  go_ret
  exact ⟨s, rfl, s8, sl, B3⟩

end Go.Proofs.YtmdaianbhpppfaaGreatDoor
