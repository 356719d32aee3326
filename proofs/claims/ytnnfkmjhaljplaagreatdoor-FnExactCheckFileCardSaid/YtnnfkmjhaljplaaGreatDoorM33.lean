/- What the laws' walks rest upon, part 33. -/
import Derived.Test.YtnnfkmjhaljplaaGreatDoorM32
import Derived.Test.YtnnfkmjhaljplaaGreatDoorM30
import Derived.Test.YtnnfkmjhaljplaaGreatDoorM29
import Derived.Deep.OwnRows
import Derived.Deep.Cut
namespace Go.Proofs.YtnnfkmjhaljplaaGreatDoor
open Go.RowKit
theorem info_bool : (Tryz.prog.info? 4).map (fun i => (i.zero, i.size, i.bytes)) = some (some (.bool false), 1, 1) := by kernel_rfl
theorem made_bool (n : Nat) : (madeCells #[Value.bool false] n).toList = List.replicate n (Value.bool false) := by
  apply List.ext_getElem
  · simp [madeCells]
  · intro i h1 h2
    simp [madeCells, Nat.mod_one]
/-- What l8Check tells. -/
def RchPost (t : List (List Ev)) (os : List Wls) (w : World) (e : Ending) (w' : World) : Prop := ∃ A c, e = .returned (.tuple #[.slice A ((rowW t os).getD []).length c, .bool (rowW t os).isSome]) ∧ w'.ownsRow w.heap.size 2 1 (.slice A ((rowW t os).getD []).length c) ((rowW t os).getD []).length ((intR ((rowW t os).getD [])).map (Value.int .i64)) ∧ Below w.heap.size w w'
set_option maxRecDepth 100000 in
set_option maxHeartbeats 1600000 in
theorem l8Check_any (t : List (List Ev)) (os : List Wls) (A A' : Option Addr) (c c' : Nat) (w : World) (hj : JdgOk t os) (h : RdT w w.heap.size A t) (h' : RdW w w.heap.size A' os) :
    Calls Tryz.prog 171 #[.slice A t.length c, .slice A' os.length c'] w (fun e w' => RchPost t os w e w') := by
  unfold RchPost
  obtain ⟨i0, hi, hz0, hz1, hz2⟩ := info_parts info_i64
  have hmk := fun w => run_make_row' (P := Tryz.prog) 301 4 (.bool false) 1 Tryz.underlying301 info_bool rfl .i64 .i64 6561 (by omega) (by omega) w
  obtain ⟨CB, hCB⟩ : ∃ CB, CB = madeCells #[Value.bool false] 6561 := ⟨_, rfl⟩
  rw [← hCB] at hmk
  have hm2 : ∀ w : World, (Instr.makeSlice 301 (.int .i64 6561) (.int .i64 6561)).run Tryz.prog w = .ok (.slice (some ⟨w.heap.size, 0, none⟩) 6561 6561) (w.alloc (.cells CB 4)) := hmk
  clear hmk
  have HCB := hide hCB
  clear hCB
  have ht4 := hj.few
  have h63 : t.length ≤ maxLen := by unfold maxLen; omega
  have h8b : i0.bytes * t.length ≤ 281474976710656 := by rw [hz2]; omega
  have L4 := hide (fun V (hV : Below w.heap.size w V) => l4Count_any t A c V (by omega) (fun l hl => Nat.le_trans (hj.rows l hl) (by omega)) (h.below hV).lt)
  rw [← evsT_sum] at L4
  obtain ⟨R, hR⟩ : ∃ R, R = rowW t os := ⟨_, rfl⟩
  rw [← hR]
  have HR := hide (show onW t os (evsT t) (zeroQ t) = R by rw [on_zero, hR]; rfl)
  clear hR
  have HU := hide (fun (U : World) (hU : U = ((w.alloc (Obj.cells CB 4)).alloc (Obj.cells #[.slice A t.length c, .slice A' os.length c', .slice (some ⟨w.heap.size, 0, none⟩) 6561 6561, .slice none 0 0, .int .i64 (evsT t : Nat)] 303)).drew) =>
    (by
      have e1 : (w.alloc (Obj.cells CB 4)).heap.size = w.heap.size + 1 := World.size_alloc _ _
      have k1 := (Bk.new (w.alloc (Obj.cells CB 4)) #[.slice A t.length c, .slice A' os.length c', .slice (some ⟨w.heap.size, 0, none⟩) 6561 6561, .slice none 0 0, .int .i64 (evsT t : Nat)] 303).drewN 1
      have k2 : Bk U (w.alloc (Obj.cells CB 4)).heap.size #[.slice A t.length c, .slice A' os.length c', .slice (some ⟨w.heap.size, 0, none⟩) 6561 6561, .slice none 0 0, .int .i64 (evsT t : Nat)] 303 := by rw [hU]; exact k1
      rw [e1] at k2
      have o1 := World.ownsRow_lit (base := w.heap.size) (e := 4) (size := 1) w CB 6561 (Nat.le_refl _) (by unfold maxLen; omega) (by rw [HCB.out, size_madeCells])
      have o2 : U.ownsRow w.heap.size 4 1 (.slice (some ⟨w.heap.size, 0, none⟩) 6561 6561) 6561 CB.toList := by rw [hU]; exact own_below (o1.alloc (Obj.cells #[.slice A t.length c, .slice A' os.length c', .slice (some ⟨w.heap.size, 0, none⟩) 6561 6561, .slice none 0 0, .int .i64 (evsT t : Nat)] 303)) (Below.refl _ _).drew (Nat.le_refl _)
      rw [HCB.out, made_bool] at o2
      have b1 : Below w.heap.size w U := by rw [hU]; exact (((Below.refl w.heap.size w).alloc (Nat.le_refl _) (Obj.cells CB 4)).alloc (by rw [e1]; omega) (Obj.cells #[.slice A t.length c, .slice A' os.length c', .slice (some ⟨w.heap.size, 0, none⟩) 6561 6561, .slice none 0 0, .int .i64 (evsT t : Nat)] 303)).drew
      have z1 : U.heap.size = w.heap.size + 2 := by rw [hU]; show ((w.alloc (Obj.cells CB 4)).alloc (Obj.cells #[.slice A t.length c, .slice A' os.length c', .slice (some ⟨w.heap.size, 0, none⟩) 6561 6561, .slice none 0 0, .int .i64 (evsT t : Nat)] 303)).heap.size = _; rw [World.size_alloc, e1]
      exact ⟨k2, o2, b1, z1⟩ :
      Bk U (w.heap.size + 1) #[.slice A t.length c, .slice A' os.length c', .slice (some ⟨w.heap.size, 0, none⟩) 6561 6561, .slice none 0 0, .int .i64 (evsT t : Nat)] 303 ∧ U.ownsRow w.heap.size 4 1 (.slice (some ⟨w.heap.size, 0, none⟩) 6561 6561) 6561 (List.replicate 6561 (Value.bool false)) ∧ Below w.heap.size w U ∧ U.heap.size = w.heap.size + 2))
  have HJ := hide hj
  have HT := hide h
  have HO := hide h'
  clear hj h h'
  go_enter Tryz.func171, Tryz.ntmps171
  go_upto_region 1 with fail
  refine wp_region_F 99 (fun w' => Below w.heap.size w w') (fun w' => True) (by kernel_rfl) ⟨(Below.refl _ _).drew, trivial⟩ (fun hHeld => ?_)
  try simp only [Act.put, List.setIfInBounds_toArray, List.set_cons_zero, List.set_cons_succ]
  refine wpAnyF_take (i := 0) (v := ?_) (by (simp only [List.getElem?_toArray, List.getElem?_cons_zero]; rfl)) (by kernel_rfl) (by kernel_rfl) (by kernel_rfl) (by decide) (by exact fun _ _ _ h => h) ⟨hHeld.1, .inr hHeld.2⟩ (Or.inl ⟨by rfl, ?_⟩) ?_
  rotate_left
  · (intro w' _; go_simp <;> with_reducible rfl)
  try simp only [Act.put, List.setIfInBounds_toArray, List.set_cons_zero, List.set_cons_succ]
  refine wpAnyF_take (i := 1) (v := ?_) (by (simp only [List.getElem?_toArray, List.getElem?_cons_succ, List.getElem?_cons_zero]; rfl)) (by kernel_rfl) (by kernel_rfl) (by kernel_rfl) (by decide) (by exact fun _ _ _ h => h) ⟨hHeld.1, .inr hHeld.2⟩ (Or.inl ⟨by rfl, ?_⟩) ?_
  rotate_left
  · (intro w' _; go_simp <;> with_reducible rfl)
  try simp only [Act.put, List.setIfInBounds_toArray, List.set_cons_zero, List.set_cons_succ]
  refine wpAnyF_take (i := 3) (v := ?_) (by (simp only [List.getElem?_toArray, List.getElem?_cons_succ, List.getElem?_cons_zero]; rfl)) (by kernel_rfl) (by kernel_rfl) (by kernel_rfl) (by decide) (by exact fun _ _ _ h => h) ⟨hHeld.1, .inr hHeld.2⟩ (Or.inl ⟨by rfl, ?_⟩) ?_
  rotate_left
  · (intro w' _; go_simp <;> with_reducible rfl)
  try simp only [Act.put, List.setIfInBounds_toArray, List.set_cons_zero, List.set_cons_succ]
  refine wpAnyF_ready (rs := [2, 4]) (by kernel_rfl) (by simp) ?_
  refine AllReadyF.cons (by (simp only [List.getElem?_toArray, List.getElem?_cons_succ, List.getElem?_cons_zero]; rfl)) (fun K hK => ?_) ?_
  · skip
    go_simp
    refine hK.out _ _ ⟨(Below.alloc hHeld.1 hHeld.1.size _), trivial⟩ (fun hNew => ?_)
    clear hK K hHeld
    have hHeld := hNew
    clear hNew
    try simp only [Act.put, List.setIfInBounds_toArray, List.set_cons_zero, List.set_cons_succ]
    refine wpAnyF_ready (rs := [4]) (by kernel_rfl) (by simp) ?_
    refine AllReadyF.cons (by (simp only [List.getElem?_toArray, List.getElem?_cons_succ, List.getElem?_cons_zero]; rfl)) (fun K hK => ?_) AllReadyF.nil
    go_simp
    go_at_call 139
    refine (L4.out _ hHeld.1).mono ?_
    rintro e wa ⟨rfl, rfl⟩
    refine hK.out _ _ ⟨hHeld.1, trivial⟩ (fun hNew => ?_)
    clear hK K hHeld
    have hHeld := hNew
    clear hNew
    try simp only [Act.put, List.setIfInBounds_toArray, List.set_cons_zero, List.set_cons_succ]
    refine wpAnyF_take (i := 5) (v := ?_) (by (simp only [List.getElem?_toArray, List.getElem?_cons_succ, List.getElem?_cons_zero]; rfl)) (by kernel_rfl) (by kernel_rfl) (by kernel_rfl) (by decide) (by exact fun _ _ _ h => h) ⟨hHeld.1, .inr hHeld.2⟩ (Or.inl ⟨by rfl, ?_⟩) ?_
    rotate_left
    · (intro w' _; go_simp <;> with_reducible rfl)
    try simp only [Act.put, List.setIfInBounds_toArray, List.set_cons_zero, List.set_cons_succ]
    refine wpAnyF_ready (rs := [6]) (by kernel_rfl) (by simp) ?_
    refine AllReadyF.cons (by (simp only [List.getElem?_toArray, List.getElem?_cons_succ, List.getElem?_cons_zero]; rfl)) (fun K hK => ?_) AllReadyF.nil
    go_simp
    refine hK.out _ _ ⟨(Below.alloc hHeld.1 hHeld.1.size _), trivial⟩ (fun hNew => ?_)
    clear hK K hHeld
    have hHeld := hNew
    clear hNew
    try simp only [Act.put, List.setIfInBounds_toArray, List.set_cons_zero, List.set_cons_succ]
    refine wpAnyF_take (i := 7) (v := ?_) (by (simp only [List.getElem?_toArray, List.getElem?_cons_succ, List.getElem?_cons_zero]; rfl)) (by kernel_rfl) (by kernel_rfl) (by kernel_rfl) (by decide) (by exact fun _ _ _ h => h) ⟨hHeld.1, .inr hHeld.2⟩ (Or.inl ⟨by rfl, ?_⟩) ?_
    rotate_left
    · (intro w' _; go_simp <;> with_reducible rfl)
    try simp only [Act.put, List.setIfInBounds_toArray, List.set_cons_zero, List.set_cons_succ]
    refine wpAnyF_done (by kernel_rfl) ?_ _
    generalize hU : ((w.alloc (Obj.cells CB 4)).alloc (Obj.cells #[.slice A t.length c, .slice A' os.length c', .slice (some ⟨w.heap.size, 0, none⟩) 6561 6561, .slice none 0 0, .int .i64 (evsT t : Nat)] 303)).drew = U
    obtain ⟨UB, UD, UO, UZ⟩ := HU.out U hU.symm
    clear hU hHeld
    have hle : w.heap.size ≤ U.heap.size := by omega
    have HUZ := hide UZ
    clear UZ
    go_wp2_with (at_make; refine wpList_make_full _ rfl _ _ 25 rfl w.heap.size 2 i0 (.int .i64 0) 1 Tryz.underlying25 hi hz0 hz1 .i64 .i64 _ _ t.length rfl rfl rfl rfl h8b h63 hle ?_; intro w3 hown hg)
    rw [made_i64, ← intR_zero, HUZ.out] at hown
    have z3 := hg.size
    have UZ := HUZ.out
    have FA := hide (show FAt t os A A' c c' w.heap.size (w.heap.size + 1) w.heap.size (w.heap.size + 2) (w.heap.size + 3) w (List.replicate 6561 false) (zeroQ t) [] (.slice none 0 0) w3 from
      ⟨UB.grown hg (by simp), by rw [List.map_replicate]; exact UD.kept hg (own_sep fun z hz e => by cases e), hown, World.ownsRow_nil _ _ _ _, UO.grown hg (by omega) (fun k e => by cases e), by have := hown.lt (w.heap.size + 2) rfl; omega⟩)
    have FI := find_any t os A A' c c' w.heap.size (w.heap.size + 1) w.heap.size (w.heap.size + 2) (w.heap.size + 3) w HJ.out HT.out HO.out (evsT t) (List.replicate 6561 false) (zeroQ t) [] (.slice none 0 0) w3 (okQ_zero t) (by rw [zeroQ_sum]; omega) (by rw [zeroQ_sum]; rfl) DeadOk.zero FA.out
    clear hown hg UB UD UO UZ
    rw [HUZ.out]
    go_wp2_with fail
    refine FI.mono ?_
    rintro e w4 ⟨X', q', v', rfl, hX, hF, _⟩
    rw [HR.out] at hF ⊢
    rw [List.nil_append] at hF
    clear FI FA hX
    obtain ⟨Av, cv, hv⟩ := own_shape hF.row
    subst hv
    have p3 := (hF.box.cell 3).trans (rfl : _ = some (Value.slice Av (R.getD []).length cv))
    have HF := hide hF
    clear hF
    cases R with
    | some s =>
      rw [Option.isSome_some]
      go_wp2
      refine bodyPost_ret (v := .tuple #[.slice Av s.length cv, .bool true]) (by simp [results, Tryz.results171, go_sem]) rfl ?_
      exact ⟨Av, cv, rfl, own_mono HF.out.row (by omega), HF.out.old⟩
    | none =>
      rw [Option.isSome_none]
      go_wp2
      refine bodyPost_ret (v := .tuple #[.slice none 0 0, .bool false]) (by simp [results, Tryz.results171, go_sem]) rfl ?_
      exact ⟨none, 0, rfl, World.ownsRow_nil _ _ _ _, HF.out.old⟩
  refine AllReadyF.cons (by (simp only [List.getElem?_toArray, List.getElem?_cons_succ, List.getElem?_cons_zero]; rfl)) (fun K hK => ?_) ?_
  · skip
    go_simp
    go_at_call 139
    refine (L4.out _ hHeld.1).mono ?_
    rintro e wa ⟨rfl, rfl⟩
    refine hK.out _ _ ⟨hHeld.1, trivial⟩ (fun hNew => ?_)
    clear hK K hHeld
    have hHeld := hNew
    clear hNew
    try simp only [Act.put, List.setIfInBounds_toArray, List.set_cons_zero, List.set_cons_succ]
    refine wpAnyF_ready (rs := [2]) (by kernel_rfl) (by simp) ?_
    refine AllReadyF.cons (by (simp only [List.getElem?_toArray, List.getElem?_cons_succ, List.getElem?_cons_zero]; rfl)) (fun K hK => ?_) AllReadyF.nil
    go_simp
    refine hK.out _ _ ⟨(Below.alloc hHeld.1 hHeld.1.size _), trivial⟩ (fun hNew => ?_)
    clear hK K hHeld
    have hHeld := hNew
    clear hNew
    try simp only [Act.put, List.setIfInBounds_toArray, List.set_cons_zero, List.set_cons_succ]
    refine wpAnyF_take (i := 5) (v := ?_) (by (simp only [List.getElem?_toArray, List.getElem?_cons_succ, List.getElem?_cons_zero]; rfl)) (by kernel_rfl) (by kernel_rfl) (by kernel_rfl) (by decide) (by exact fun _ _ _ h => h) ⟨hHeld.1, .inr hHeld.2⟩ (Or.inl ⟨by rfl, ?_⟩) ?_
    rotate_left
    · (intro w' _; go_simp <;> with_reducible rfl)
    try simp only [Act.put, List.setIfInBounds_toArray, List.set_cons_zero, List.set_cons_succ]
    refine wpAnyF_ready (rs := [6]) (by kernel_rfl) (by simp) ?_
    refine AllReadyF.cons (by (simp only [List.getElem?_toArray, List.getElem?_cons_succ, List.getElem?_cons_zero]; rfl)) (fun K hK => ?_) AllReadyF.nil
    go_simp
    refine hK.out _ _ ⟨(Below.alloc hHeld.1 hHeld.1.size _), trivial⟩ (fun hNew => ?_)
    clear hK K hHeld
    have hHeld := hNew
    clear hNew
    try simp only [Act.put, List.setIfInBounds_toArray, List.set_cons_zero, List.set_cons_succ]
    refine wpAnyF_take (i := 7) (v := ?_) (by (simp only [List.getElem?_toArray, List.getElem?_cons_succ, List.getElem?_cons_zero]; rfl)) (by kernel_rfl) (by kernel_rfl) (by kernel_rfl) (by decide) (by exact fun _ _ _ h => h) ⟨hHeld.1, .inr hHeld.2⟩ (Or.inl ⟨by rfl, ?_⟩) ?_
    rotate_left
    · (intro w' _; go_simp <;> with_reducible rfl)
    try simp only [Act.put, List.setIfInBounds_toArray, List.set_cons_zero, List.set_cons_succ]
    refine wpAnyF_done (by kernel_rfl) ?_ _
    generalize hU : ((w.alloc (Obj.cells CB 4)).alloc (Obj.cells #[.slice A t.length c, .slice A' os.length c', .slice (some ⟨w.heap.size, 0, none⟩) 6561 6561, .slice none 0 0, .int .i64 (evsT t : Nat)] 303)).drew = U
    obtain ⟨UB, UD, UO, UZ⟩ := HU.out U hU.symm
    clear hU hHeld
    have hle : w.heap.size ≤ U.heap.size := by omega
    have HUZ := hide UZ
    clear UZ
    go_wp2_with (at_make; refine wpList_make_full _ rfl _ _ 25 rfl w.heap.size 2 i0 (.int .i64 0) 1 Tryz.underlying25 hi hz0 hz1 .i64 .i64 _ _ t.length rfl rfl rfl rfl h8b h63 hle ?_; intro w3 hown hg)
    rw [made_i64, ← intR_zero, HUZ.out] at hown
    have z3 := hg.size
    have UZ := HUZ.out
    have FA := hide (show FAt t os A A' c c' w.heap.size (w.heap.size + 1) w.heap.size (w.heap.size + 2) (w.heap.size + 3) w (List.replicate 6561 false) (zeroQ t) [] (.slice none 0 0) w3 from
      ⟨UB.grown hg (by simp), by rw [List.map_replicate]; exact UD.kept hg (own_sep fun z hz e => by cases e), hown, World.ownsRow_nil _ _ _ _, UO.grown hg (by omega) (fun k e => by cases e), by have := hown.lt (w.heap.size + 2) rfl; omega⟩)
    have FI := find_any t os A A' c c' w.heap.size (w.heap.size + 1) w.heap.size (w.heap.size + 2) (w.heap.size + 3) w HJ.out HT.out HO.out (evsT t) (List.replicate 6561 false) (zeroQ t) [] (.slice none 0 0) w3 (okQ_zero t) (by rw [zeroQ_sum]; omega) (by rw [zeroQ_sum]; rfl) DeadOk.zero FA.out
    clear hown hg UB UD UO UZ
    rw [HUZ.out]
    go_wp2_with fail
    refine FI.mono ?_
    rintro e w4 ⟨X', q', v', rfl, hX, hF, _⟩
    rw [HR.out] at hF ⊢
    rw [List.nil_append] at hF
    clear FI FA hX
    obtain ⟨Av, cv, hv⟩ := own_shape hF.row
    subst hv
    have p3 := (hF.box.cell 3).trans (rfl : _ = some (Value.slice Av (R.getD []).length cv))
    have HF := hide hF
    clear hF
    cases R with
    | some s =>
      rw [Option.isSome_some]
      go_wp2
      refine bodyPost_ret (v := .tuple #[.slice Av s.length cv, .bool true]) (by simp [results, Tryz.results171, go_sem]) rfl ?_
      exact ⟨Av, cv, rfl, own_mono HF.out.row (by omega), HF.out.old⟩
    | none =>
      rw [Option.isSome_none]
      go_wp2
      refine bodyPost_ret (v := .tuple #[.slice none 0 0, .bool false]) (by simp [results, Tryz.results171, go_sem]) rfl ?_
      exact ⟨none, 0, rfl, World.ownsRow_nil _ _ _ _, HF.out.old⟩
  exact AllReadyF.nil
set_option maxRecDepth 100000 in
set_option maxHeartbeats 800000 in
theorem specChk_any (t : List (List Ev)) (os : List Wls) (A A' : Option Addr) (c c' : Nat) (w : World) (hm : t.length ≤ maxLen) (hm' : os.length ≤ maxLen) (h : RdT w w.heap.size A t) (h' : RdW w w.heap.size A' os) :
    Calls Tryz.prog 104 #[.slice A t.length c, .slice A' os.length c'] w fun e w' => ChkPost t os w e w' := by
  unfold ChkPost
  obtain ⟨W, hW⟩ : ∃ W, W = w.alloc (Obj.cells #[.int .i64 0, .bool false, .slice none 0 0] 62) := ⟨_, rfl⟩
  have B0 : Below w.heap.size w W := by rw [hW]; exact (Below.refl _ _).alloc (Nat.le_refl _) _
  have hT := (h.below B0).lt
  have hO := (h'.below B0).lt
  have OF := hide (specOrF_any t os A A' c c' W hm hm' hT hO)
  have HW := hide hW
  clear hW
  by_cases h0 : odF t os = 0
  · rw [h0] at OF
    rw [chkR_ok h0]
    have hj := jdg_ok h0
    have hev := evsT_few hj
    have FR := hide (fun V (hV : RdT V V.heap.size A t) (hV' : RdW V V.heap.size A' os) => l8Check_any t os A A' c c' V hj hV hV')
    have hlen : ((rowW t os).getD []).length ≤ evsT t := by
      cases hr : rowW t os with
      | none => simp
      | some r => have := (firstW_sound t os _ _ _ hr).2; simp only [Option.getD_some]; omega
    clear h0 hj
    unfold RchPost at FR
    obtain ⟨R, hR⟩ : ∃ R, R = rowW t os := ⟨_, rfl⟩
    rw [← hR] at FR hlen ⊢
    clear hR
    obtain ⟨L, hL⟩ : ∃ L, L = R.getD [] := ⟨_, rfl⟩
    rw [← hL] at FR hlen ⊢
    generalize R.isSome = F at *
    have el : L.length = (intR L).length := (intR_len L).symm
    obtain ⟨M, hM⟩ : ∃ M, M = intR L := ⟨_, rfl⟩
    rw [el, ← hM] at FR hlen
    rw [← hM]
    clear hL el hM
    have LI := hide (fun V (Z : Option Addr) (z : Nat) (hV : Rd .i64 V V.heap.size Z M) => l1Ints_any M Z z V (by omega) hV)
    go_enter Tryz.func104, Tryz.ntmps104
    go_wp2_with fail
    rw [← HW.out]
    refine OF.out.mono ?_
    rintro e w1 ⟨rfl, b1⟩
    have z1 := b1.size
    have zW := B0.size
    go_wp2_with fail
    refine (FR.out w1 ((hT.below b1).lt) ((hO.below b1).lt)).mono ?_
    rintro e w1b ⟨Az, cz, rfl, hoz, b1b⟩
    go_wp2_with fail
    refine (LI.out w1b Az cz (Rd.of_own (k := .i64) hoz)).mono ?_
    rintro e w2 ⟨v, rfl, hoi⟩
    have ho := own_mono (base' := w.heap.size + 1) hoi.row (by have := W_size HW.out; have := b1b.size; omega)
    have b2 := hoi.old
    have hbz := b1b.size
    obtain ⟨D, d, hv⟩ := own_shape ho
    subst hv
    have hb := (b1.trans (b1b.mono z1)).trans (b2.mono (by omega))
    have q0 := W_cell HW.out hb 0
    have q1 := W_cell HW.out hb 1
    have q2 := W_cell HW.out hb 2
    have f0 := W_frozen HW.out hb 0
    have f1 := W_frozen HW.out hb 1
    have f2 := W_frozen HW.out hb 2
    simp at q0 q1 q2
    have O1 := hide (((ho.kept (grown_set w2 w.heap.size 0 (.int .i64 0)) (own_sep fun z hz e => by have := (ho.lt z hz).1; simp only [Option.some.injEq] at e; omega)).kept (grown_set _ w.heap.size 1 (.bool F)) (own_sep fun z hz e => by have := (ho.lt z hz).1; simp only [Option.some.injEq] at e; omega)).kept (grown_set _ w.heap.size 2 (.slice D M.length d)) (own_sep fun z hz e => by have := (ho.lt z hz).1; simp only [Option.some.injEq] at e; omega))
    have HB := hide ((((W_below HW.out hb).setCell (p := ⟨w.heap.size, 0, none⟩) (Nat.le_refl _) (.int .i64 0)).setCell (p := ⟨w.heap.size, 1, none⟩) (Nat.le_refl _) (.bool F)).setCell (p := ⟨w.heap.size, 2, none⟩) (Nat.le_refl _) (.slice D M.length d))
    clear ho b2 hoi hoz
    go_wp2
    refine bodyPost_ret (v := .agg #[.int .i64 0, .bool F, .slice D M.length d]) (by simp [results, Tryz.results104, go_sem, q0, q1, q2]) rfl ?_
    exact ⟨D, d, rfl, own_mono O1.out (by omega), HB.out⟩
  · rw [chkR_bad h0]
    obtain ⟨F, hF⟩ : ∃ F, F = odF t os := ⟨_, rfl⟩
    rw [← hF] at OF h0 ⊢
    have g0 : (F != 0) = true := bne_iff_ne.2 h0
    have g1 : (F == 0) = false := beq_eq_false_iff_ne.2 h0
    clear hF h0
    go_enter Tryz.func104, Tryz.ntmps104
    go_wp2_with fail
    rw [← HW.out]
    refine OF.out.mono ?_
    rintro e w1 ⟨rfl, hb⟩
    have q0 := W_cell HW.out hb 0
    have q1 := W_cell HW.out hb 1
    have q2 := W_cell HW.out hb 2
    have f0 := W_frozen HW.out hb 0
    have f1 := W_frozen HW.out hb 1
    have f2 := W_frozen HW.out hb 2
    simp at q0 q1 q2
    go_wp2
    refine bodyPost_ret (v := .agg #[.int .i64 F, .bool false, .slice none 0 0]) (by simp [results, Tryz.results104, go_sem, q0, q1, q2]) rfl ?_
    exact ⟨none, 0, rfl, World.ownsRow_nil _ _ _ _, (((W_below HW.out hb).setCell (Nat.le_refl _) _).setCell (Nat.le_refl _) _).setCell (Nat.le_refl _) _⟩
end Go.Proofs.YtnnfkmjhaljplaaGreatDoor
