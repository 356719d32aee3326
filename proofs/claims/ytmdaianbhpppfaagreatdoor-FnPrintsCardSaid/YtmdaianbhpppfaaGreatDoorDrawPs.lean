/- The contract of the draw of a text to read. -/
import Derived.Test.YtmdaianbhpppfaaGreatDoorDrawTx
namespace Go.Proofs.YtmdaianbhpppfaaGreatDoor
open Go.RowKit

def strLen : Value → Nat
  | .string s => s.size
  | _ => 0
set_option maxRecDepth 100000 in
set_option maxHeartbeats 3200000 in
theorem DrawParseTrace_any (l : List Int) (A : Option Addr) (c : Nat) (w : World) (hl : l.length ≤ 1048576) (hR : Rd .u8 w w.heap.size A l) (b8 : B8 l) :
    Calls Tryz.prog 7 #[.slice A l.length c] w (StPost 2010 w) := by
  have PS := hide (fun q (hq : q < 8) => pick_str (cs := #[.string { data := #[] }, .string { data := #[116, 114, 97, 99, 101, 32, 48, 10] }, .string { data := #[116, 114, 97, 99, 101, 32, 49, 10] }, .string { data := #[116, 114, 97, 99, 101, 32, 49, 10, 99, 111, 114, 101, 32, 48, 10] }, .string { data := #[116, 114, 97, 99, 101, 32, 49, 10, 99, 111, 114, 101, 32, 48] }, .string { data := #[116, 114, 97, 99, 101, 32, 50, 10, 99, 111, 114, 101, 32, 48, 10, 99, 111, 114, 101, 32, 48, 10] }, .string { data := #[99, 111, 114, 101, 32, 48, 10] }, .string { data := #[116, 114, 97, 99, 101, 32, 49, 10, 99, 111, 114, 101, 32, 48, 10, 114, 32, 48, 120, 48, 32, 48, 10, 10] }]) (m := 30) (q := q) (by rfl) hq)
  obtain ⟨cs, hcs⟩ : ∃ cs : Array Value, cs = #[.string { data := #[] }, .string { data := #[116, 114, 97, 99, 101, 32, 48, 10] }, .string { data := #[116, 114, 97, 99, 101, 32, 49, 10] }, .string { data := #[116, 114, 97, 99, 101, 32, 49, 10, 99, 111, 114, 101, 32, 48, 10] }, .string { data := #[116, 114, 97, 99, 101, 32, 49, 10, 99, 111, 114, 101, 32, 48] }, .string { data := #[116, 114, 97, 99, 101, 32, 50, 10, 99, 111, 114, 101, 32, 48, 10, 99, 111, 114, 101, 32, 48, 10] }, .string { data := #[99, 111, 114, 101, 32, 48, 10] }, .string { data := #[116, 114, 97, 99, 101, 32, 49, 10, 99, 111, 114, 101, 32, 48, 10, 114, 32, 48, 120, 48, 32, 48, 10, 10] }] := ⟨_, rfl⟩
  rw [← hcs] at PS
  have HC := hide hcs
  clear hcs
  go_enter Tryz.func7, Tryz.ntmps7
  go_wp2_with fail
  refine (l1Source_any l A c w hR b8 hl).mono ?_
  rintro e w1 ⟨rfl, S1, B1⟩
  go_wp2_with fail
  refine (l2TraceR_any _ _ 5 A c l w1 S1 (by omega) (by omega)).mono ?_
  rintro e w2 ⟨t, us, D, d, rfl, ht1, ht4, hall, oT, k2, hk2, S2, g2⟩
  have B2 := grown_from B1 g2 B1.size (Nat.le_refl _)
  have hF : trF t = 0 := by
    unfold trF
    rw [if_pos ⟨ht1, ht4⟩]
    refine stsF_ok fun x hx => ?_
    obtain ⟨h5, h6⟩ := hall x hx
    unfold stF
    rw [if_pos (by omega)]
    exact evsF_ok h6
  have PR := hide (l5Print_any t D d w2 hF oT.rd)
  have hX8 := prL_B8 t
  have hXl := prL_len hF
  have hX1 : 8 ≤ (prL t).length := by rw [prL_eq, List.length_append, trL_len (by omega)]; omega
  generalize prL t = X at PR hX8 hXl hX1
  have z3 := strOfNums_size X
  clear hF hall ht1 ht4 oT g2 B1 S1
  go_wp2_with fail
  refine PR.out.mono ?_
  rintro e w3 ⟨rfl, b3⟩
  have S3 := S2.below b3 S2.lt
  have B3 := B2.trans (b3.mono B2.size)
  clear PR b3 S2 B2
  go_wp2_with fail
  refine (l1Next_any _ _ X.length A c l _ S3 (by omega) (by omega) (by omega)).mono ?_
  rintro e w4 ⟨r, rfl, r0, r1, S4, g4⟩
  have hr : r < X.length := by omega
  obtain ⟨q, rfl⟩ := Int.eq_ofNat_of_zero_le r0
  have hq : q < X.length := by omega
  have B4 := grown_from B3 g4 B3.size (Nat.le_refl _)
  clear r1 hr g4 S3 B3
  go_wp2_with fail
  refine (l1Next_any _ _ 6 A c l _ S4 (by omega) (by omega) (by omega)).mono ?_
  rintro e w5 ⟨s, rfl, s0, s1, S5, g5⟩
  have B5 := grown_from B4 g5 B4.size (Nat.le_refl _)
  clear g5 S4 B4
  have STO := fun w => run_sto (P := Tryz.prog) Tryz.underlying9 (l := X) (j := q) (by omega) .i64 (z := q) rfl w
  by_cases e0 : s = 0
  · subst e0
    have SFR := fun w => run_sfrom (P := Tryz.prog) Tryz.underlying9 (l := X) (i := q) (by omega) .i64 (z := q) rfl w
    clear s1 PS HC
    go_wp2
    have SD : Src w5.drew w.heap.size A c l (k2 + 1 + 1) := S5.drewN 1
    have BD : Below w.heap.size w w5.drew := B5.drew
    refine wp_region_F 99 (fun w' => True) (fun w' => True) (by kernel_rfl) ⟨trivial, trivial⟩ (fun hHeld => ?_)
    try simp only [Act.put, List.setIfInBounds_toArray, List.set_cons_zero, List.set_cons_succ]
    generalize w5.drew = wq at *
    refine wpAnyF_take (i := 0) (v := ?_) (by (simp only [List.getElem?_toArray, List.getElem?_cons_zero]; rfl)) (by kernel_rfl) (by kernel_rfl) (by kernel_rfl) (by decide) (by exact fun _ _ _ h => h) ⟨hHeld.1, .inr hHeld.2⟩ (Or.inl ⟨by rfl, ?_⟩) ?_
    rotate_left
    · (intro w' _; go_simp <;> with_reducible rfl)
    try simp only [Act.put, List.setIfInBounds_toArray, List.set_cons_zero, List.set_cons_succ]
    refine wpAnyF_take (i := 1) (v := ?_) (by (simp only [List.getElem?_toArray, List.getElem?_cons_succ, List.getElem?_cons_zero]; rfl)) (by kernel_rfl) (by kernel_rfl) (by kernel_rfl) (by decide) (by exact fun _ _ _ h => h) ⟨hHeld.1, .inr hHeld.2⟩ (Or.inl ⟨by rfl, ?_⟩) ?_
    rotate_left
    · (intro w' _; go_simp <;> with_reducible rfl)
    try simp only [Act.put, List.setIfInBounds_toArray, List.set_cons_zero, List.set_cons_succ]
    refine wpAnyF_take (i := 2) (v := ?_) (by (simp only [List.getElem?_toArray, List.getElem?_cons_succ, List.getElem?_cons_zero]; rfl)) (by kernel_rfl) (by kernel_rfl) (by kernel_rfl) (by decide) (by exact fun _ _ _ h => h) ⟨hHeld.1, .inr hHeld.2⟩ (Or.inl ⟨by rfl, ?_⟩) ?_
    rotate_left
    · (intro w' _; go_simp <;> with_reducible rfl)
    try simp only [Act.put, List.setIfInBounds_toArray, List.set_cons_zero, List.set_cons_succ]
    refine wpAnyF_take (i := 3) (v := ?_) (by (simp only [List.getElem?_toArray, List.getElem?_cons_succ, List.getElem?_cons_zero]; rfl)) (by kernel_rfl) (by kernel_rfl) (by kernel_rfl) (by decide) (by exact fun _ _ _ h => h) ⟨hHeld.1, .inr hHeld.2⟩ (Or.inl ⟨by rfl, ?_⟩) ?_
    rotate_left
    · (intro w' _; go_simp <;> with_reducible rfl)
    try simp only [Act.put, List.setIfInBounds_toArray, List.set_cons_zero, List.set_cons_succ]
    refine wpAnyF_take (i := 10) (v := ?_) (by (simp only [List.getElem?_toArray, List.getElem?_cons_succ, List.getElem?_cons_zero]; rfl)) (by kernel_rfl) (by kernel_rfl) (by kernel_rfl) (by decide) (by exact fun _ _ _ h => h) ⟨hHeld.1, .inr hHeld.2⟩ (Or.inl ⟨by rfl, ?_⟩) ?_
    rotate_left
    · (intro w' _; go_simp <;> with_reducible rfl)
    try simp only [Act.put, List.setIfInBounds_toArray, List.set_cons_zero, List.set_cons_succ]
    refine wpAnyF_take (i := 11) (v := ?_) (by (simp only [List.getElem?_toArray, List.getElem?_cons_succ, List.getElem?_cons_zero]; rfl)) (by kernel_rfl) (by kernel_rfl) (by kernel_rfl) (by decide) (by exact fun _ _ _ h => h) ⟨hHeld.1, .inr hHeld.2⟩ (Or.inl ⟨by rfl, ?_⟩) ?_
    rotate_left
    · (intro w' _; go_simp <;> with_reducible rfl)
    try simp only [Act.put, List.setIfInBounds_toArray, List.set_cons_zero, List.set_cons_succ]
    refine wpAnyF_take (i := 12) (v := ?_) (by (simp only [List.getElem?_toArray, List.getElem?_cons_succ, List.getElem?_cons_zero]; rfl)) (by kernel_rfl) (by kernel_rfl) (by kernel_rfl) (by decide) (by exact fun _ _ _ h => h) ⟨hHeld.1, .inr hHeld.2⟩ (Or.inl ⟨by rfl, ?_⟩) ?_
    rotate_left
    · (intro w' _; go_simp <;> with_reducible rfl)
    try simp only [Act.put, List.setIfInBounds_toArray, List.set_cons_zero, List.set_cons_succ]
    refine wpAnyF_ready (rs := [4]) (by kernel_rfl) (by simp) ?_
    refine AllReadyF.cons (by (simp only [List.getElem?_toArray, List.getElem?_cons_succ, List.getElem?_cons_zero]; rfl)) (fun K hK => ?_) AllReadyF.nil
    go_simp
    refine hK.out _ _ ⟨trivial, trivial⟩ (fun hNew => ?_)
    clear hK K hHeld
    have hHeld := hNew
    clear hNew
    try simp only [Act.put, List.setIfInBounds_toArray, List.set_cons_zero, List.set_cons_succ]
    refine wpAnyF_ready (rs := [5]) (by kernel_rfl) (by simp) ?_
    refine AllReadyF.cons (by (simp only [List.getElem?_toArray, List.getElem?_cons_succ, List.getElem?_cons_zero]; rfl)) (fun K hK => ?_) AllReadyF.nil
    go_simp
    go_at_call 33
    refine (l1Pick_any _ _ _ [32, 10, 48, 49, 120, 119] A c l _ _ (SD.alloc _) (by omega) (by simp) (by simp) (Bk.new _ _ _) (by have := SD.lt; omega)).mono ?_
    rintro e w6 ⟨v, rfl, hv, S6, g6⟩
    have B6 := grown_from BD (grown_alloc g6) BD.size (Nat.le_refl _)
    have hv' : 0 ≤ v ∧ v < 256 := by simp at hv; omega
    have c8 : IntKind.u8.wrap v = v := IntWalk.u8_in _ (by omega)
    have sb := fun W : World => run_sbyte (P := Tryz.prog) Tryz.underlying22 Tryz.underlying5 Tryz.underlying9 (ty := 5) v W _ (Below.refl _ _)
    have PA := run_sadd (P := Tryz.prog) (l := X.take q) (m := [v]) (by simp only [List.length_take, List.length_cons, List.length_nil]; omega)
    have PB := run_sadd (P := Tryz.prog) (l := X.take q ++ [v]) (m := X.drop q) (by simp only [List.length_append, List.length_take, List.length_drop, List.length_cons, List.length_nil]; omega)
    clear hv g6 S6
    refine hK.out _ _ ⟨trivial, trivial⟩ (fun hNew => ?_)
    clear hK K hHeld
    have hHeld := hNew
    clear hNew
    try simp only [Act.put, List.setIfInBounds_toArray, List.set_cons_zero, List.set_cons_succ]
    refine wpAnyF_take (i := 6) (v := ?_) (by (simp only [List.getElem?_toArray, List.getElem?_cons_succ, List.getElem?_cons_zero]; rfl)) (by kernel_rfl) (by kernel_rfl) (by kernel_rfl) (by decide) (by exact fun _ _ _ h => h) ⟨hHeld.1, .inr hHeld.2⟩ (Or.inl ⟨by rfl, ?_⟩) ?_
    rotate_left
    · (intro w' _; go_simp <;> with_reducible rfl)
    try simp only [Act.put, List.setIfInBounds_toArray, List.set_cons_zero, List.set_cons_succ]
    refine wpAnyF_ready (rs := [7]) (by kernel_rfl) (by simp) ?_
    refine AllReadyF.cons (by (simp only [List.getElem?_toArray, List.getElem?_cons_succ, List.getElem?_cons_zero]; rfl)) (fun K hK => ?_) AllReadyF.nil
    go_simp
    refine hK.out _ _ ⟨trivial, trivial⟩ (fun hNew => ?_)
    clear hK K hHeld
    have hHeld := hNew
    clear hNew
    try simp only [Act.put, List.setIfInBounds_toArray, List.set_cons_zero, List.set_cons_succ]
    refine wpAnyF_ready (rs := [8]) (by kernel_rfl) (by simp) ?_
    refine AllReadyF.cons (by (simp only [List.getElem?_toArray, List.getElem?_cons_succ, List.getElem?_cons_zero]; rfl)) (fun K hK => ?_) AllReadyF.nil
    go_simp
    refine hK.out _ _ ⟨trivial, trivial⟩ (fun hNew => ?_)
    clear hK K hHeld
    have hHeld := hNew
    clear hNew
    try simp only [Act.put, List.setIfInBounds_toArray, List.set_cons_zero, List.set_cons_succ]
    refine wpAnyF_take (i := 9) (v := ?_) (by (simp only [List.getElem?_toArray, List.getElem?_cons_succ, List.getElem?_cons_zero]; rfl)) (by kernel_rfl) (by kernel_rfl) (by kernel_rfl) (by decide) (by exact fun _ _ _ h => h) ⟨hHeld.1, .inr hHeld.2⟩ (Or.inl ⟨by rfl, ?_⟩) ?_
    rotate_left
    · (intro w' _; go_simp <;> with_reducible rfl)
    try simp only [Act.put, List.setIfInBounds_toArray, List.set_cons_zero, List.set_cons_succ]
    refine wpAnyF_take (i := 13) (v := ?_) (by (simp only [List.getElem?_toArray, List.getElem?_cons_succ, List.getElem?_cons_zero]; rfl)) (by kernel_rfl) (by kernel_rfl) (by kernel_rfl) (by decide) (by exact fun _ _ _ h => h) ⟨hHeld.1, .inr hHeld.2⟩ (Or.inl ⟨by rfl, ?_⟩) ?_
    rotate_left
    · (intro w' _; go_simp <;> with_reducible rfl)
    try simp only [Act.put, List.setIfInBounds_toArray, List.set_cons_zero, List.set_cons_succ]
    refine wpAnyF_take (i := 14) (v := ?_) (by (simp only [List.getElem?_toArray, List.getElem?_cons_succ, List.getElem?_cons_zero]; rfl)) (by kernel_rfl) (by kernel_rfl) (by kernel_rfl) (by decide) (by exact fun _ _ _ h => h) ⟨hHeld.1, .inr hHeld.2⟩ (Or.inl ⟨by rfl, ?_⟩) ?_
    rotate_left
    · (intro w' _; go_simp <;> with_reducible rfl)
    try simp only [Act.put, List.setIfInBounds_toArray, List.set_cons_zero, List.set_cons_succ]
    refine wpAnyF_done (by kernel_rfl) ?_ _
    go_wp2
    go_ret
    exact ⟨X.take q ++ v :: X.drop q, rfl, (hX8.take q).append ((B8.one hv'.1 hv'.2).append (hX8.drop q)), by simp only [List.length_append, List.length_take, List.length_drop, List.length_cons]; omega, (B6.alloc B6.size _)⟩
  · by_cases e1 : s = 1
    · subst e1
      clear s1 PS HC e0
      go_wp2
      go_ret
      exact ⟨X.take q, rfl, hX8.take q, by rw [List.length_take]; omega, B5⟩
    · by_cases e2 : s = 2
      · subst e2
        clear s1 PS HC e0 e1
        have wq1 : IntKind.i64.wrap ((q : Int) + 1) = (q : Int) + 1 := IntWalk.i64_in _ (by omega)
        have SFR := fun w => run_sfrom (P := Tryz.prog) Tryz.underlying9 (l := X) (i := q + 1) (by omega) .i64 (z := (q : Int) + 1) rfl w
        have PA := run_sadd (P := Tryz.prog) (l := X.take q) (m := X.drop (q + 1)) (by simp only [List.length_take, List.length_drop]; omega)
        go_wp2
        refine wp_region_F 99 (fun w' => True) (fun w' => True) (by kernel_rfl) ⟨trivial, trivial⟩ (fun hHeld => ?_)
        try simp only [Act.put, List.setIfInBounds_toArray, List.set_cons_zero, List.set_cons_succ]
        refine wpAnyF_take (i := 0) (v := ?_) (by (simp only [List.getElem?_toArray, List.getElem?_cons_zero]; rfl)) (by kernel_rfl) (by kernel_rfl) (by kernel_rfl) (by decide) (by exact fun _ _ _ h => h) ⟨hHeld.1, .inr hHeld.2⟩ (Or.inl ⟨by rfl, ?_⟩) ?_
        rotate_left
        · (intro w' _; go_simp <;> with_reducible rfl)
        try simp only [Act.put, List.setIfInBounds_toArray, List.set_cons_zero, List.set_cons_succ]
        refine wpAnyF_take (i := 1) (v := ?_) (by (simp only [List.getElem?_toArray, List.getElem?_cons_succ, List.getElem?_cons_zero]; rfl)) (by kernel_rfl) (by kernel_rfl) (by kernel_rfl) (by decide) (by exact fun _ _ _ h => h) ⟨hHeld.1, .inr hHeld.2⟩ (Or.inl ⟨by rfl, ?_⟩) ?_
        rotate_left
        · (intro w' _; go_simp <;> with_reducible rfl)
        try simp only [Act.put, List.setIfInBounds_toArray, List.set_cons_zero, List.set_cons_succ]
        refine wpAnyF_take (i := 2) (v := ?_) (by (simp only [List.getElem?_toArray, List.getElem?_cons_succ, List.getElem?_cons_zero]; rfl)) (by kernel_rfl) (by kernel_rfl) (by kernel_rfl) (by decide) (by exact fun _ _ _ h => h) ⟨hHeld.1, .inr hHeld.2⟩ (Or.inl ⟨by rfl, ?_⟩) ?_
        rotate_left
        · (intro w' _; go_simp <;> with_reducible rfl)
        try simp only [Act.put, List.setIfInBounds_toArray, List.set_cons_zero, List.set_cons_succ]
        refine wpAnyF_take (i := 3) (v := ?_) (by (simp only [List.getElem?_toArray, List.getElem?_cons_succ, List.getElem?_cons_zero]; rfl)) (by kernel_rfl) (by kernel_rfl) (by kernel_rfl) (by decide) (by exact fun _ _ _ h => h) ⟨hHeld.1, .inr hHeld.2⟩ (Or.inl ⟨by rfl, ?_⟩) ?_
        rotate_left
        · (intro w' _; go_simp <;> with_reducible rfl)
        try simp only [Act.put, List.setIfInBounds_toArray, List.set_cons_zero, List.set_cons_succ]
        refine wpAnyF_take (i := 4) (v := ?_) (by (simp only [List.getElem?_toArray, List.getElem?_cons_succ, List.getElem?_cons_zero]; rfl)) (by kernel_rfl) (by kernel_rfl) (by kernel_rfl) (by decide) (by exact fun _ _ _ h => h) ⟨hHeld.1, .inr hHeld.2⟩ (Or.inl ⟨by rfl, ?_⟩) ?_
        rotate_left
        · (intro w' _; go_simp <;> with_reducible rfl)
        try simp only [Act.put, List.setIfInBounds_toArray, List.set_cons_zero, List.set_cons_succ]
        refine wpAnyF_take (i := 5) (v := ?_) (by (simp only [List.getElem?_toArray, List.getElem?_cons_succ, List.getElem?_cons_zero]; rfl)) (by kernel_rfl) (by kernel_rfl) (by kernel_rfl) (by decide) (by exact fun _ _ _ h => h) ⟨hHeld.1, .inr hHeld.2⟩ (Or.inl ⟨by rfl, ?_⟩) ?_
        rotate_left
        · (intro w' _; go_simp <;> with_reducible rfl)
        try simp only [Act.put, List.setIfInBounds_toArray, List.set_cons_zero, List.set_cons_succ]
        refine wpAnyF_take (i := 6) (v := ?_) (by (simp only [List.getElem?_toArray, List.getElem?_cons_succ, List.getElem?_cons_zero]; rfl)) (by kernel_rfl) (by kernel_rfl) (by kernel_rfl) (by decide) (by exact fun _ _ _ h => h) ⟨hHeld.1, .inr hHeld.2⟩ (Or.inl ⟨by rfl, ?_⟩) ?_
        rotate_left
        · (intro w' _; go_simp <;> with_reducible rfl)
        try simp only [Act.put, List.setIfInBounds_toArray, List.set_cons_zero, List.set_cons_succ]
        refine wpAnyF_take (i := 7) (v := ?_) (by (simp only [List.getElem?_toArray, List.getElem?_cons_succ, List.getElem?_cons_zero]; rfl)) (by kernel_rfl) (by kernel_rfl) (by kernel_rfl) (by decide) (by exact fun _ _ _ h => h) ⟨hHeld.1, .inr hHeld.2⟩ (Or.inl ⟨by rfl, ?_⟩) ?_
        rotate_left
        · (intro w' _; go_simp <;> with_reducible rfl)
        try simp only [Act.put, List.setIfInBounds_toArray, List.set_cons_zero, List.set_cons_succ]
        refine wpAnyF_take (i := 8) (v := ?_) (by (simp only [List.getElem?_toArray, List.getElem?_cons_succ, List.getElem?_cons_zero]; rfl)) (by kernel_rfl) (by kernel_rfl) (by kernel_rfl) (by decide) (by exact fun _ _ _ h => h) ⟨hHeld.1, .inr hHeld.2⟩ (Or.inl ⟨by rfl, ?_⟩) ?_
        rotate_left
        · (intro w' _; go_simp <;> with_reducible rfl)
        try simp only [Act.put, List.setIfInBounds_toArray, List.set_cons_zero, List.set_cons_succ]
        refine wpAnyF_done (by kernel_rfl) ?_ _
        go_wp2
        go_ret
        exact ⟨X.take q ++ X.drop (q + 1), rfl, (hX8.take q).append (hX8.drop (q + 1)), by simp only [List.length_append, List.length_take, List.length_drop]; omega, by first | exact B5.drew | exact below_drewN B5 _⟩
      · by_cases e3 : s = 3
        · subst e3
          clear s1 e0 e1 e2
          have kb := Bk.new w5 cs 9
          have SA := S5.alloc (.cells cs 9)
          have BA := B5.alloc B5.size (.cells cs 9)
          have hne := S5.lt
          go_wp2_with fail
          rw [← HC.out]
          generalize w5.alloc (.cells cs 9) = w6 at *
          refine (l1Next_any _ _ 8 A c l _ SA (by omega) (by omega) (by omega)).mono ?_
          rintro e w7 ⟨r, rfl, r0, r1, S7, g7⟩
          have hr : r < 8 := by omega
          obtain ⟨p, rfl⟩ := Int.eq_ofNat_of_zero_le r0
          obtain ⟨y, hy, y8, yl⟩ := PS.out p (by omega)
          have hc := ((kb.grown g7 (by simp only [ne_eq, Option.some.injEq]; omega)).cell p).trans hy
          have B7 := BA.grown g7 BA.size (fun k hk => by simp at hk; omega)
          clear r1 g7 S7 SA kb BA PS hy HC
          go_wp2
          go_ret
          exact ⟨y, rfl, y8, by omega, B7⟩
        · by_cases e4 : s = 4
          · subst e4
            clear s1 e0 e1 e2 e3 PS HC
            go_wp2_with fail
            refine (l1Chance_any _ _ 9 A c l _ S5 (by omega) (by omega) (by omega)).mono ?_
            rintro e w6 ⟨b, rfl, S6, g6⟩
            have B6 := grown_from B5 g6 B5.size (Nat.le_refl _)
            clear g6 S5 B5
            cases b with
            | false =>
              go_wp2
              go_ret
              exact ⟨X, rfl, hX8, by omega, B6⟩
            | true =>
              have HX8 := hide hX8
              clear hX8
              go_wp2
              go_loopw [4] (fun v wr => ∃ (Y : List Int) (k : Nat), v = .string (strOfNums Y) ∧ B8 Y ∧ Y.length ≤ 2001 ∧ k ≤ 300 + Y.length ∧ Src wr w.heap.size A c l k ∧ Below w.heap.size w wr) (fun v _ => 2002 - strLen v)
              case atStart => exact ⟨X, k2 + 1 + 1 + 1, rfl, HX8.out, by omega, by omega, S6, B6⟩
              case round =>
                obtain ⟨Y, k, rfl, y8, yl, hk, Sk, Bk'⟩ := hrel
                have zY := strOfNums_size Y
                go_wp2_with fail
                refine (l1Pick_any _ _ _ [2000, 2001] A c l _ _ (Sk.alloc _) (by omega) (by simp) (by simp) (Bk.new _ _ _) (by have := Sk.lt; omega)).mono ?_
                rintro e w7 ⟨v, rfl, hv, S7, g7⟩
                have B7 := grown_from Bk' (grown_alloc g7) Bk'.size (Nat.le_refl _)
                have hv' : 2000 ≤ v ∧ v ≤ 2001 := by simp at hv; omega
                clear hv g7 Sk Bk'
                by_cases hlt : (Y.length : Int) < v
                · have PA := run_sadd (P := Tryz.prog) (l := Y) (m := [10]) (by simp only [List.length_cons, List.length_nil]; omega)
                  have pa : ∀ w, (Op.stringOp .add (strOfNums Y) ({ data := #[10] } : ByteArray)).run Tryz.prog w = .ok (.string (strOfNums (Y ++ [10]))) w := PA
                  clear PA
                  go_wp2
                  go_roundw
                  case rel => exact ⟨Y ++ [10], k + 1, rfl, y8.append (B8.one (by omega) (by omega)), by simp only [List.length_append, List.length_cons, List.length_nil]; omega, by simp only [List.length_append, List.length_cons, List.length_nil]; omega, S7, B7⟩
                  case measure => simp only [strLen, strOfNums_size, List.length_append, List.length_cons, List.length_nil]; omega
                · go_wp2
                  go_ret
                  exact ⟨Y, rfl, y8, by omega, B7⟩
          · have s5 : s = 5 := by omega
            subst s5
            clear s1 e0 e1 e2 e3 e4 PS HC
            go_wp2
            go_ret
            exact ⟨X, rfl, hX8, by omega, B5⟩
end Go.Proofs.YtmdaianbhpppfaaGreatDoor
