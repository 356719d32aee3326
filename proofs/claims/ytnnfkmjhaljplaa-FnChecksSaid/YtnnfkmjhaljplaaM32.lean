/- What the laws' walks rest upon, part 32. -/
import Derived.Test.YtnnfkmjhaljplaaM31
import Derived.Test.YtnnfkmjhaljplaaM30
import Derived.Test.YtnnfkmjhaljplaaM16
import Derived.Deep.OwnRows
import Derived.Deep.Cut
import Derived.Test.YtnnfkmjhaljplaaM11
import Derived.Test.YtnnfkmjhaljplaaM07
import Derived.Test.YtnnfkmjhaljplaaM06
import Derived.Test.YtnnfkmjhaljplaaM10
import Derived.Test.YtnnfkmjhaljplaaM05
import Derived.Deep.DeepCutAuto
namespace Go.Proofs.Ytnnfkmjhaljplaa
open Go.RowKit
theorem info_bool : (Try.prog.info? 4).map (fun i => (i.zero, i.size, i.bytes)) = some (some (.bool false), 1, 1) := by kernel_rfl
theorem made_bool (n : Nat) : (madeCells #[Value.bool false] n).toList = List.replicate n (Value.bool false) := by
 apply List.ext_getElem
 ·simp [madeCells]
 ·intro i h1 h2
  simp [madeCells, Nat.mod_one]
/-- What l8Check tells. -/
def RchPost (t : List (List Ev)) (os : List Wls) (w : World) (e : Ending) (w' : World) : Prop := ∃ A c, e = .returned (.tuple #[.slice A ((rowW t os).getD []).length c, .bool (rowW t os).isSome]) ∧ w'.ownsRow w.heap.size 2 1 (.slice A ((rowW t os).getD []).length c) ((rowW t os).getD []).length ((intR ((rowW t os).getD [])).map (Value.int .i64)) ∧ Below w.heap.size w w'
set_option maxRecDepth 100000 in
set_option maxHeartbeats 1600000 in
theorem l8Check_any (t : List (List Ev)) (os : List Wls) (A A' : Option Addr) (c c' : Nat) (w : World) (hj : JdgOk t os) (h : RdT w w.heap.size A t) (h' : RdW w w.heap.size A' os) :
  Calls Try.prog 47 #[.slice A t.length c, .slice A' os.length c'] w (fun e w' => RchPost t os w e w') := by
 unfold RchPost
 obtain ⟨i0, hi, hz0, hz1, hz2⟩ := info_parts info_i64
 have hmk := fun w => run_make_row' (P := Try.prog) 142 4 (.bool false) 1 Try.underlying142 info_bool rfl .i64 .i64 6561 (by omega) (by omega) w
 obtain ⟨CB, hCB⟩ : ∃ CB, CB = madeCells #[Value.bool false] 6561 := ⟨_, rfl⟩
 rw [← hCB] at hmk
 have hm2 : ∀ w : World, (Instr.makeSlice 142 (.int .i64 6561) (.int .i64 6561)).run Try.prog w = .ok (.slice (some ⟨w.heap.size, 0, none⟩) 6561 6561) (w.alloc (.cells CB 4)) := hmk
 clear hmk
 have HCB := hide hCB
 clear hCB
 have ht4 := hj.few
 have h63 : t.length ≤ maxLen := by unfold maxLen; omega
 have h8b : i0.bytes * t.length ≤ 281474976710656 := by rw [hz2]; omega
 have L4 := hide (fun V (hV : Below w.heap.size w V) => l4Count_any t A c V (by omega) (fun l hl => Nat.le_trans (hj.rows l hl) (by omega)) (h.below hV).lt)
 rw [← evsT_sum] at L4
 obtain ⟨R, hR⟩ : ∃ R, R = rowW t os := ⟨_, rfl⟩
 rw [← hR]
 have HR := hide (show onW t os (evsT t) (zeroQ t) = R by rw [on_zero, hR]; rfl)
 clear hR
 have HU := hide (fun (U : World) (hU : U = ((w.alloc (Obj.cells CB 4)).alloc (Obj.cells #[.slice A t.length c, .slice A' os.length c', .slice (some ⟨w.heap.size, 0, none⟩) 6561 6561, .slice none 0 0, .int .i64 (evsT t : Nat)] 144)).drew) =>
  (by
   have e1 : (w.alloc (Obj.cells CB 4)).heap.size = w.heap.size + 1 := World.size_alloc _ _
   have k1 := (Bk.new (w.alloc (Obj.cells CB 4)) #[.slice A t.length c, .slice A' os.length c', .slice (some ⟨w.heap.size, 0, none⟩) 6561 6561, .slice none 0 0, .int .i64 (evsT t : Nat)] 144).drewN 1
   have k2 : Bk U (w.alloc (Obj.cells CB 4)).heap.size #[.slice A t.length c, .slice A' os.length c', .slice (some ⟨w.heap.size, 0, none⟩) 6561 6561, .slice none 0 0, .int .i64 (evsT t : Nat)] 144 := by rw [hU]; exact k1
   rw [e1] at k2
   have o1 := World.ownsRow_lit (base := w.heap.size) (e := 4) (size := 1) w CB 6561 (Nat.le_refl _) (by unfold maxLen; omega) (by rw [HCB.out, size_madeCells])
   have o2 : U.ownsRow w.heap.size 4 1 (.slice (some ⟨w.heap.size, 0, none⟩) 6561 6561) 6561 CB.toList := by rw [hU]; exact own_below (o1.alloc (Obj.cells #[.slice A t.length c, .slice A' os.length c', .slice (some ⟨w.heap.size, 0, none⟩) 6561 6561, .slice none 0 0, .int .i64 (evsT t : Nat)] 144)) (Below.refl _ _).drew (Nat.le_refl _)
   rw [HCB.out, made_bool] at o2
   have b1 : Below w.heap.size w U := by rw [hU]; exact (((Below.refl w.heap.size w).alloc (Nat.le_refl _) (Obj.cells CB 4)).alloc (by rw [e1]; omega) (Obj.cells #[.slice A t.length c, .slice A' os.length c', .slice (some ⟨w.heap.size, 0, none⟩) 6561 6561, .slice none 0 0, .int .i64 (evsT t : Nat)] 144)).drew
   have z1 : U.heap.size = w.heap.size + 2 := by rw [hU]; show ((w.alloc (Obj.cells CB 4)).alloc (Obj.cells #[.slice A t.length c, .slice A' os.length c', .slice (some ⟨w.heap.size, 0, none⟩) 6561 6561, .slice none 0 0, .int .i64 (evsT t : Nat)] 144)).heap.size = _; rw [World.size_alloc, e1]
   exact ⟨k2, o2, b1, z1⟩ :
   Bk U (w.heap.size + 1) #[.slice A t.length c, .slice A' os.length c', .slice (some ⟨w.heap.size, 0, none⟩) 6561 6561, .slice none 0 0, .int .i64 (evsT t : Nat)] 144 ∧ U.ownsRow w.heap.size 4 1 (.slice (some ⟨w.heap.size, 0, none⟩) 6561 6561) 6561 (List.replicate 6561 (Value.bool false)) ∧ Below w.heap.size w U ∧ U.heap.size = w.heap.size + 2))
 have HJ := hide hj
 have HT := hide h
 have HO := hide h'
 clear hj h h'
 go_enter Try.func47, Try.ntmps47
 go_upto_region 1 with fail
 refine wp_region_F 99 (fun w' => Below w.heap.size w w') (fun w' => True) (by kernel_rfl) ⟨(Below.refl _ _).drew, trivial⟩ (fun hHeld => ?_)
 try simp only [Act.put, List.setIfInBounds_toArray, List.set_cons_zero, List.set_cons_succ]
 refine wpAnyF_take (i := 0) (v := ?_) (by (simp only [List.getElem?_toArray, List.getElem?_cons_zero]; rfl)) (by kernel_rfl) (by kernel_rfl) (by kernel_rfl) (by decide) (by exact fun _ _ _ h => h) ⟨hHeld.1, .inr hHeld.2⟩ (Or.inl ⟨by rfl, ?_⟩) ?_
 rotate_left
 ·(intro w' _; go_simp <;> with_reducible rfl)
 try simp only [Act.put, List.setIfInBounds_toArray, List.set_cons_zero, List.set_cons_succ]
 refine wpAnyF_take (i := 1) (v := ?_) (by (simp only [List.getElem?_toArray, List.getElem?_cons_succ, List.getElem?_cons_zero]; rfl)) (by kernel_rfl) (by kernel_rfl) (by kernel_rfl) (by decide) (by exact fun _ _ _ h => h) ⟨hHeld.1, .inr hHeld.2⟩ (Or.inl ⟨by rfl, ?_⟩) ?_
 rotate_left
 ·(intro w' _; go_simp <;> with_reducible rfl)
 try simp only [Act.put, List.setIfInBounds_toArray, List.set_cons_zero, List.set_cons_succ]
 refine wpAnyF_take (i := 3) (v := ?_) (by (simp only [List.getElem?_toArray, List.getElem?_cons_succ, List.getElem?_cons_zero]; rfl)) (by kernel_rfl) (by kernel_rfl) (by kernel_rfl) (by decide) (by exact fun _ _ _ h => h) ⟨hHeld.1, .inr hHeld.2⟩ (Or.inl ⟨by rfl, ?_⟩) ?_
 rotate_left
 ·(intro w' _; go_simp <;> with_reducible rfl)
 try simp only [Act.put, List.setIfInBounds_toArray, List.set_cons_zero, List.set_cons_succ]
 refine wpAnyF_ready (rs := [2, 4]) (by kernel_rfl) (by simp) ?_
 refine AllReadyF.cons (by (simp only [List.getElem?_toArray, List.getElem?_cons_succ, List.getElem?_cons_zero]; rfl)) (fun K hK => ?_) ?_
 ·skip
  go_simp
  refine hK.out _ _ ⟨(Below.alloc hHeld.1 hHeld.1.size _), trivial⟩ (fun hNew => ?_)
  clear hK K hHeld
  have hHeld := hNew
  clear hNew
  try simp only [Act.put, List.setIfInBounds_toArray, List.set_cons_zero, List.set_cons_succ]
  refine wpAnyF_ready (rs := [4]) (by kernel_rfl) (by simp) ?_
  refine AllReadyF.cons (by (simp only [List.getElem?_toArray, List.getElem?_cons_succ, List.getElem?_cons_zero]; rfl)) (fun K hK => ?_) AllReadyF.nil
  go_simp
  go_at_call 55
  refine (L4.out _ hHeld.1).mono ?_
  rintro e wa ⟨rfl, rfl⟩
  refine hK.out _ _ ⟨hHeld.1, trivial⟩ (fun hNew => ?_)
  clear hK K hHeld
  have hHeld := hNew
  clear hNew
  try simp only [Act.put, List.setIfInBounds_toArray, List.set_cons_zero, List.set_cons_succ]
  refine wpAnyF_take (i := 5) (v := ?_) (by (simp only [List.getElem?_toArray, List.getElem?_cons_succ, List.getElem?_cons_zero]; rfl)) (by kernel_rfl) (by kernel_rfl) (by kernel_rfl) (by decide) (by exact fun _ _ _ h => h) ⟨hHeld.1, .inr hHeld.2⟩ (Or.inl ⟨by rfl, ?_⟩) ?_
  rotate_left
  ·(intro w' _; go_simp <;> with_reducible rfl)
  try simp only [Act.put, List.setIfInBounds_toArray, List.set_cons_zero, List.set_cons_succ]
  refine wpAnyF_ready (rs := [6]) (by kernel_rfl) (by simp) ?_
  refine AllReadyF.cons (by (simp only [List.getElem?_toArray, List.getElem?_cons_succ, List.getElem?_cons_zero]; rfl)) (fun K hK => ?_) AllReadyF.nil
  go_simp
  refine hK.out _ _ ⟨(Below.alloc hHeld.1 hHeld.1.size _), trivial⟩ (fun hNew => ?_)
  clear hK K hHeld
  have hHeld := hNew
  clear hNew
  try simp only [Act.put, List.setIfInBounds_toArray, List.set_cons_zero, List.set_cons_succ]
  refine wpAnyF_take (i := 7) (v := ?_) (by (simp only [List.getElem?_toArray, List.getElem?_cons_succ, List.getElem?_cons_zero]; rfl)) (by kernel_rfl) (by kernel_rfl) (by kernel_rfl) (by decide) (by exact fun _ _ _ h => h) ⟨hHeld.1, .inr hHeld.2⟩ (Or.inl ⟨by rfl, ?_⟩) ?_
  rotate_left
  ·(intro w' _; go_simp <;> with_reducible rfl)
  try simp only [Act.put, List.setIfInBounds_toArray, List.set_cons_zero, List.set_cons_succ]
  refine wpAnyF_done (by kernel_rfl) ?_ _
  generalize hU : ((w.alloc (Obj.cells CB 4)).alloc (Obj.cells #[.slice A t.length c, .slice A' os.length c', .slice (some ⟨w.heap.size, 0, none⟩) 6561 6561, .slice none 0 0, .int .i64 (evsT t : Nat)] 144)).drew = U
  obtain ⟨UB, UD, UO, UZ⟩ := HU.out U hU.symm
  clear hU hHeld
  have hle : w.heap.size ≤ U.heap.size := by omega
  have HUZ := hide UZ
  clear UZ
  go_wp2_with (at_make; refine wpList_make_full _ rfl _ _ 41 rfl w.heap.size 2 i0 (.int .i64 0) 1 Try.underlying41 hi hz0 hz1 .i64 .i64 _ _ t.length rfl rfl rfl rfl h8b h63 hle ?_; intro w3 hown hg)
  rw [made_i64, ← intR_zero, HUZ.out] at hown
  have z3 := hg.size
  have UZ := HUZ.out
  have FA := hide (show FAt t os A A' c c' w.heap.size (w.heap.size + 1) w.heap.size (w.heap.size + 2) (w.heap.size + 3) w (List.replicate 6561 false) (zeroQ t) [] (.slice none 0 0) w3 from
   ⟨UB.grown hg (by simp), by rw [List.map_replicate]; exact UD.kept hg (own_sep fun z hz e => by cases e), hown, World.ownsRow_nil _ _ _ _, UO.grown hg (by omega) (fun k e => by cases e), by have := hown.lt (w.heap.size + 2) rfl; omega⟩)
  have FI := find_any t os A A' c c' w.heap.size (w.heap.size + 1) w.heap.size (w.heap.size + 2) (w.heap.size + 3) w HJ.out HT.out HO.out (evsT t) (List.replicate 6561 false) (zeroQ t) [] (.slice none 0 0) w3 (okQ_zero t) (by rw [zeroQ_sum]; omega) (by rw [zeroQ_sum]; rfl) DeadOk.zero FA.out
  clear hown hg UB UD UO UZ
  rw [HUZ.out]
  go_wp2_with fail
  refine FI.mono ?_
  rintro e w4 ⟨X', q', v', rfl, hX, hF, _⟩
  rw [HR.out] at hF ⊢
  rw [List.nil_append] at hF
  clear FI FA hX
  obtain ⟨Av, cv, hv⟩ := own_shape hF.row
  subst hv
  have p3 := (hF.box.cell 3).trans (rfl : _ = some (Value.slice Av (R.getD []).length cv))
  have HF := hide hF
  clear hF
  cases R with
  | some s =>
   rw [Option.isSome_some]
   go_wp2
   refine bodyPost_ret (v := .tuple #[.slice Av s.length cv, .bool true]) (by simp [results, Try.results47, go_sem]) rfl ?_
   exact ⟨Av, cv, rfl, own_mono HF.out.row (by omega), HF.out.old⟩
  | none =>
   rw [Option.isSome_none]
   go_wp2
   refine bodyPost_ret (v := .tuple #[.slice none 0 0, .bool false]) (by simp [results, Try.results47, go_sem]) rfl ?_
   exact ⟨none, 0, rfl, World.ownsRow_nil _ _ _ _, HF.out.old⟩
 refine AllReadyF.cons (by (simp only [List.getElem?_toArray, List.getElem?_cons_succ, List.getElem?_cons_zero]; rfl)) (fun K hK => ?_) ?_
 ·skip
  go_simp
  go_at_call 55
  refine (L4.out _ hHeld.1).mono ?_
  rintro e wa ⟨rfl, rfl⟩
  refine hK.out _ _ ⟨hHeld.1, trivial⟩ (fun hNew => ?_)
  clear hK K hHeld
  have hHeld := hNew
  clear hNew
  try simp only [Act.put, List.setIfInBounds_toArray, List.set_cons_zero, List.set_cons_succ]
  refine wpAnyF_ready (rs := [2]) (by kernel_rfl) (by simp) ?_
  refine AllReadyF.cons (by (simp only [List.getElem?_toArray, List.getElem?_cons_succ, List.getElem?_cons_zero]; rfl)) (fun K hK => ?_) AllReadyF.nil
  go_simp
  refine hK.out _ _ ⟨(Below.alloc hHeld.1 hHeld.1.size _), trivial⟩ (fun hNew => ?_)
  clear hK K hHeld
  have hHeld := hNew
  clear hNew
  try simp only [Act.put, List.setIfInBounds_toArray, List.set_cons_zero, List.set_cons_succ]
  refine wpAnyF_take (i := 5) (v := ?_) (by (simp only [List.getElem?_toArray, List.getElem?_cons_succ, List.getElem?_cons_zero]; rfl)) (by kernel_rfl) (by kernel_rfl) (by kernel_rfl) (by decide) (by exact fun _ _ _ h => h) ⟨hHeld.1, .inr hHeld.2⟩ (Or.inl ⟨by rfl, ?_⟩) ?_
  rotate_left
  ·(intro w' _; go_simp <;> with_reducible rfl)
  try simp only [Act.put, List.setIfInBounds_toArray, List.set_cons_zero, List.set_cons_succ]
  refine wpAnyF_ready (rs := [6]) (by kernel_rfl) (by simp) ?_
  refine AllReadyF.cons (by (simp only [List.getElem?_toArray, List.getElem?_cons_succ, List.getElem?_cons_zero]; rfl)) (fun K hK => ?_) AllReadyF.nil
  go_simp
  refine hK.out _ _ ⟨(Below.alloc hHeld.1 hHeld.1.size _), trivial⟩ (fun hNew => ?_)
  clear hK K hHeld
  have hHeld := hNew
  clear hNew
  try simp only [Act.put, List.setIfInBounds_toArray, List.set_cons_zero, List.set_cons_succ]
  refine wpAnyF_take (i := 7) (v := ?_) (by (simp only [List.getElem?_toArray, List.getElem?_cons_succ, List.getElem?_cons_zero]; rfl)) (by kernel_rfl) (by kernel_rfl) (by kernel_rfl) (by decide) (by exact fun _ _ _ h => h) ⟨hHeld.1, .inr hHeld.2⟩ (Or.inl ⟨by rfl, ?_⟩) ?_
  rotate_left
  ·(intro w' _; go_simp <;> with_reducible rfl)
  try simp only [Act.put, List.setIfInBounds_toArray, List.set_cons_zero, List.set_cons_succ]
  refine wpAnyF_done (by kernel_rfl) ?_ _
  generalize hU : ((w.alloc (Obj.cells CB 4)).alloc (Obj.cells #[.slice A t.length c, .slice A' os.length c', .slice (some ⟨w.heap.size, 0, none⟩) 6561 6561, .slice none 0 0, .int .i64 (evsT t : Nat)] 144)).drew = U
  obtain ⟨UB, UD, UO, UZ⟩ := HU.out U hU.symm
  clear hU hHeld
  have hle : w.heap.size ≤ U.heap.size := by omega
  have HUZ := hide UZ
  clear UZ
  go_wp2_with (at_make; refine wpList_make_full _ rfl _ _ 41 rfl w.heap.size 2 i0 (.int .i64 0) 1 Try.underlying41 hi hz0 hz1 .i64 .i64 _ _ t.length rfl rfl rfl rfl h8b h63 hle ?_; intro w3 hown hg)
  rw [made_i64, ← intR_zero, HUZ.out] at hown
  have z3 := hg.size
  have UZ := HUZ.out
  have FA := hide (show FAt t os A A' c c' w.heap.size (w.heap.size + 1) w.heap.size (w.heap.size + 2) (w.heap.size + 3) w (List.replicate 6561 false) (zeroQ t) [] (.slice none 0 0) w3 from
   ⟨UB.grown hg (by simp), by rw [List.map_replicate]; exact UD.kept hg (own_sep fun z hz e => by cases e), hown, World.ownsRow_nil _ _ _ _, UO.grown hg (by omega) (fun k e => by cases e), by have := hown.lt (w.heap.size + 2) rfl; omega⟩)
  have FI := find_any t os A A' c c' w.heap.size (w.heap.size + 1) w.heap.size (w.heap.size + 2) (w.heap.size + 3) w HJ.out HT.out HO.out (evsT t) (List.replicate 6561 false) (zeroQ t) [] (.slice none 0 0) w3 (okQ_zero t) (by rw [zeroQ_sum]; omega) (by rw [zeroQ_sum]; rfl) DeadOk.zero FA.out
  clear hown hg UB UD UO UZ
  rw [HUZ.out]
  go_wp2_with fail
  refine FI.mono ?_
  rintro e w4 ⟨X', q', v', rfl, hX, hF, _⟩
  rw [HR.out] at hF ⊢
  rw [List.nil_append] at hF
  clear FI FA hX
  obtain ⟨Av, cv, hv⟩ := own_shape hF.row
  subst hv
  have p3 := (hF.box.cell 3).trans (rfl : _ = some (Value.slice Av (R.getD []).length cv))
  have HF := hide hF
  clear hF
  cases R with
  | some s =>
   rw [Option.isSome_some]
   go_wp2
   refine bodyPost_ret (v := .tuple #[.slice Av s.length cv, .bool true]) (by simp [results, Try.results47, go_sem]) rfl ?_
   exact ⟨Av, cv, rfl, own_mono HF.out.row (by omega), HF.out.old⟩
  | none =>
   rw [Option.isSome_none]
   go_wp2
   refine bodyPost_ret (v := .tuple #[.slice none 0 0, .bool false]) (by simp [results, Try.results47, go_sem]) rfl ?_
   exact ⟨none, 0, rfl, World.ownsRow_nil _ _ _ _, HF.out.old⟩
 exact AllReadyF.nil
set_option maxRecDepth 100000 in
set_option maxHeartbeats 800000 in
theorem specChk_any (t : List (List Ev)) (os : List Wls) (A A' : Option Addr) (c c' : Nat) (w : World) (hm : t.length ≤ maxLen) (hm' : os.length ≤ maxLen) (h : RdT w w.heap.size A t) (h' : RdW w w.heap.size A' os) :
  Calls Try.prog 19 #[.slice A t.length c, .slice A' os.length c'] w fun e w' => ChkPost t os w e w' := by
 unfold ChkPost
 obtain ⟨W, hW⟩ : ∃ W, W = w.alloc (Obj.cells #[.int .i64 0, .bool false, .slice none 0 0] 43) := ⟨_, rfl⟩
 have B0 : Below w.heap.size w W := by rw [hW]; exact (Below.refl _ _).alloc (Nat.le_refl _) _
 have hT := (h.below B0).lt
 have hO := (h'.below B0).lt
 have OF := hide (specOrF_any t os A A' c c' W hm hm' hT hO)
 have HW := hide hW
 clear hW
 by_cases h0 : odF t os = 0
 ·rw [h0] at OF
  rw [chkR_ok h0]
  have hj := jdg_ok h0
  have hev := evsT_few hj
  have FR := hide (fun V (hV : RdT V V.heap.size A t) (hV' : RdW V V.heap.size A' os) => l8Check_any t os A A' c c' V hj hV hV')
  have hlen : ((rowW t os).getD []).length ≤ evsT t := by
   cases hr : rowW t os with
   | none => simp
   | some r => have := (firstW_sound t os _ _ _ hr).2; simp only [Option.getD_some]; omega
  clear h0 hj
  unfold RchPost at FR
  obtain ⟨R, hR⟩ : ∃ R, R = rowW t os := ⟨_, rfl⟩
  rw [← hR] at FR hlen ⊢
  clear hR
  obtain ⟨L, hL⟩ : ∃ L, L = R.getD [] := ⟨_, rfl⟩
  rw [← hL] at FR hlen ⊢
  generalize R.isSome = F at *
  have el : L.length = (intR L).length := (intR_len L).symm
  obtain ⟨M, hM⟩ : ∃ M, M = intR L := ⟨_, rfl⟩
  rw [el, ← hM] at FR hlen
  rw [← hM]
  clear hL el hM
  have LI := hide (fun V (Z : Option Addr) (z : Nat) (hV : Rd .i64 V V.heap.size Z M) => l1Ints_any M Z z V (by omega) hV)
  go_enter Try.func19, Try.ntmps19
  go_wp2_with fail
  rw [← HW.out]
  refine OF.out.mono ?_
  rintro e w1 ⟨rfl, b1⟩
  have z1 := b1.size
  have zW := B0.size
  go_wp2_with fail
  refine (FR.out w1 ((hT.below b1).lt) ((hO.below b1).lt)).mono ?_
  rintro e w1b ⟨Az, cz, rfl, hoz, b1b⟩
  go_wp2_with fail
  refine (LI.out w1b Az cz (Rd.of_own (k := .i64) hoz)).mono ?_
  rintro e w2 ⟨v, rfl, hoi⟩
  have ho := own_mono (base' := w.heap.size + 1) hoi.row (by have := W_size HW.out; have := b1b.size; omega)
  have b2 := hoi.old
  have hbz := b1b.size
  obtain ⟨D, d, hv⟩ := own_shape ho
  subst hv
  have hb := (b1.trans (b1b.mono z1)).trans (b2.mono (by omega))
  have q0 := W_cell HW.out hb 0
  have q1 := W_cell HW.out hb 1
  have q2 := W_cell HW.out hb 2
  have f0 := W_frozen HW.out hb 0
  have f1 := W_frozen HW.out hb 1
  have f2 := W_frozen HW.out hb 2
  simp at q0 q1 q2
  have O1 := hide (((ho.kept (grown_set w2 w.heap.size 0 (.int .i64 0)) (own_sep fun z hz e => by have := (ho.lt z hz).1; simp only [Option.some.injEq] at e; omega)).kept (grown_set _ w.heap.size 1 (.bool F)) (own_sep fun z hz e => by have := (ho.lt z hz).1; simp only [Option.some.injEq] at e; omega)).kept (grown_set _ w.heap.size 2 (.slice D M.length d)) (own_sep fun z hz e => by have := (ho.lt z hz).1; simp only [Option.some.injEq] at e; omega))
  have HB := hide ((((W_below HW.out hb).setCell (p := ⟨w.heap.size, 0, none⟩) (Nat.le_refl _) (.int .i64 0)).setCell (p := ⟨w.heap.size, 1, none⟩) (Nat.le_refl _) (.bool F)).setCell (p := ⟨w.heap.size, 2, none⟩) (Nat.le_refl _) (.slice D M.length d))
  clear ho b2 hoi hoz
  go_wp2
  refine bodyPost_ret (v := .agg #[.int .i64 0, .bool F, .slice D M.length d]) (by simp [results, Try.results19, go_sem, q0, q1, q2]) rfl ?_
  exact ⟨D, d, rfl, own_mono O1.out (by omega), HB.out⟩
 ·rw [chkR_bad h0]
  obtain ⟨F, hF⟩ : ∃ F, F = odF t os := ⟨_, rfl⟩
  rw [← hF] at OF h0 ⊢
  have g0 : (F != 0) = true := bne_iff_ne.2 h0
  have g1 : (F == 0) = false := beq_eq_false_iff_ne.2 h0
  clear hF h0
  go_enter Try.func19, Try.ntmps19
  go_wp2_with fail
  rw [← HW.out]
  refine OF.out.mono ?_
  rintro e w1 ⟨rfl, hb⟩
  have q0 := W_cell HW.out hb 0
  have q1 := W_cell HW.out hb 1
  have q2 := W_cell HW.out hb 2
  have f0 := W_frozen HW.out hb 0
  have f1 := W_frozen HW.out hb 1
  have f2 := W_frozen HW.out hb 2
  simp at q0 q1 q2
  go_wp2
  refine bodyPost_ret (v := .agg #[.int .i64 F, .bool false, .slice none 0 0]) (by simp [results, Try.results19, go_sem, q0, q1, q2]) rfl ?_
  exact ⟨none, 0, rfl, World.ownsRow_nil _ _ _ _, (((W_below HW.out hb).setCell (Nat.le_refl _) _).setCell (Nat.le_refl _) _).setCell (Nat.le_refl _) _⟩
end Go.Proofs.Ytnnfkmjhaljplaa
namespace Go.Proofs.Ytnnfkmjhaljplaa
open Go.RowKit
theorem chkR_len (t : List (List Ev)) (os : List Wls) : (chkR t os).2.2.length ≤ 32 := by
 by_cases h0 : odF t os = 0
 ·have hev := evsT_few (jdg_ok h0)
  rw [chkR_ok h0]
  show (intR ((rowW t os).getD [])).length ≤ 32
  rw [intR_len]
  cases hr : rowW t os with
  | none => simp
  | some r => have := (firstW_sound t os _ _ _ hr).2; simp only [Option.getD_some]; omega
 ·rw [chkR_bad h0]; simp
end Go.Proofs.Ytnnfkmjhaljplaa
namespace Go.Proofs.Ytnnfkmjhaljplaa
open Go.RowKit
def WtPost (w : World) (e : Ending) (w' : World) : Prop := ∃ (t : List (List Ev)) (os : List Wls) (xs : List Int) (D E F : Option Addr) (d ec fc : Nat), e = .returned (.tuple #[.slice D t.length d, .slice E os.length ec, .slice F xs.length fc]) ∧ t.length ≤ 5 ∧ (∀ x ∈ t, x.length ≤ 150) ∧ os.length ≤ 200 ∧ (∀ x ∈ os, x.ids.length ≤ 1000) ∧ xs.length ≤ 33 ∧ RdT w' w'.heap.size D t ∧ RdW w' w'.heap.size E os ∧ Rd .i64 w' w'.heap.size F xs ∧ Below w.heap.size w w'
theorem field_witC (a : Int) (b : Bool) (D : Option Addr) (n d : Nat) (W : World) : (Instr.field 43 (.agg #[.int .i64 a, .bool b, .slice D n d]) 2).run Try.prog W = .ok (.slice D n d) W := by kernel_rfl
set_option maxRecDepth 100000 in
set_option maxHeartbeats 3200000 in
theorem DrawIsWitness_any (HB : LdOk) (l : List Int) (A : Option Addr) (c : Nat) (w : World) (hl : l.length ≤ 1048576) (hR : Rd .u8 w w.heap.size A l) (b8 : B8 l) :
  Calls Try.prog 20 #[.slice A l.length c] w (WtPost w) := by
 obtain ⟨i0, hi, hz0, hz1, hz2⟩ := info_parts info_i64
 go_enter Try.func20, Try.ntmps20
 go_wp2_with fail
 refine (l1Source_any l A c w hR b8 hl).mono ?_
 rintro e w1 ⟨rfl, S1, B1⟩
 go_wp2_with fail
 refine (HB _ _ A c l w1 S1 (by omega)).mono ?_
 rintro e w2 ⟨t, os, D, E, d, ec, rfl, ht5, ht, ho, hid, rT, rW, k2, hk2, S2, g2⟩
 have B2 := grown_from B1 g2 B1.size (Nat.le_refl _)
 have CK := hide (specChk_any t os D E d ec w2 (by unfold maxLen; omega) (by unfold maxLen; omega) rT rW)
 unfold ChkPost at CK
 have hx := chkR_len t os
 obtain ⟨xs, hxs⟩ : ∃ x, x = (chkR t os).2.2 := ⟨_, rfl⟩
 obtain ⟨C, hC⟩ : ∃ x, x = (chkR t os).1 := ⟨_, rfl⟩
 obtain ⟨Y, hY⟩ : ∃ x, x = (chkR t os).2.1 := ⟨_, rfl⟩
 rw [← hxs, ← hC, ← hY] at CK
 rw [← hxs] at hx
 have hf := field_witC C Y
 clear hxs hC hY g2
 go_wp2_with fail
 refine CK.out.mono ?_
 rintro e w3 ⟨V, vc, rfl, oR, b3⟩
 have S3 := S2.below b3 S2.lt
 have B3 := B2.trans (b3.mono B2.size)
 have rT3 := rT.below b3
 have rW3 := rW.below b3
 have s2 := S2.lt
 have z3 := b3.size
 clear CK b3 S2 rT rW
 by_cases h0 : 1 < xs.length
 ·go_wp2_with fail
  refine (l1Chance_any _ _ _ A c l w3 S3 (by omega) (by omega) (by omega)).mono ?_
  rintro e w4 ⟨bo, rfl, S4, g4⟩
  have B4 := grown_from B3 g4 B3.size (Nat.le_refl _)
  have rT4 := rT3.src S3.blk S4.blk g4
  have rW4 := rW3.src S3.blk S4.blk g4
  have z4 := g4.size
  have oR4 := oR.kept g4 (.inr (fun e => own_apart oR _ (.inl s2) e.symm))
  clear oR g4 rT3 rW3 S3
  cases bo
  ·skip
   go_wp2_with fail
   refine (l1Chance_any _ _ _ A c l _ S4 (by omega) (by omega) (by omega)).mono ?_
   rintro e wa ⟨ba, rfl, Sa, ga⟩
   have Ba := grown_from B4 ga B4.size (Nat.le_refl _)
   have rTa := rT4.src S4.blk Sa.blk ga
   have rWa := rW4.src S4.blk Sa.blk ga
   have oRa := oR4.kept ga (.inr (fun e => own_apart oR4 _ (.inl s2) e.symm))
   have za := ga.size
   clear ga oR4 rT4 rW4
   cases ba
   ·go_wp2
    refine bodyPost_ret (v := .tuple #[.slice D t.length d, .slice E os.length ec, .slice V xs.length vc]) (by simp [results, Try.results20, go_sem]) rfl ?_
    exact ⟨t, os, xs, D, E, V, d, ec, vc, rfl, ht5, ht, ho, hid, by omega, rTa.more (by omega), rWa.more (by omega), Rd.of_own (k := .i64) oRa, Ba⟩
   ·go_wp2_with fail
    refine (l1Pick_any _ _ _ [0, 4, -1] A c l _ _ (Sa.alloc _) (by omega) (by simp) (by simp) (Bk.new _ _ _) (by have := Sa.lt; omega)).mono ?_
    rintro e wb ⟨r, rfl, hm, Sb, gb⟩
    have gb' := grown_alloc gb
    have Bb := grown_from Ba gb' Ba.size (Nat.le_refl _)
    have rTb := rTa.src Sa.blk Sb.blk gb'
    have rWb := rWa.src Sa.blk Sb.blk gb'
    have oRb := oRa.kept gb' (.inr (fun e => own_apart oRa _ (.inl s2) e.symm))
    have zb := gb'.size
    have hBl := Rd.one_new wb r 2
    have al := (Below.refl w2.heap.size wb).alloc (by omega) (Obj.cells #[.int .i64 r] 2)
    have ob1 := oRb.alloc (Obj.cells #[.int .i64 r] 2)
    have a63 : xs.length + [r].length ≤ maxLen := by unfold maxLen; simp only [List.length_cons, List.length_nil]; omega
    have aby : (xs.length + [r].length) * 8 ≤ 140737488355328 := by simp only [List.length_cons, List.length_nil]; omega
    have abs : w2.heap.size ≤ (wb.alloc (Obj.cells #[.int .i64 r] 2)).heap.size := Nat.le_trans (by omega) al.size
    clear hm gb gb' oRb oRa rTa rWa
    go_wp2_with (at_builtin; refine wpList_append_rd _ rfl _ _ 41 rfl w2.heap.size 2 i0 (.int .i64 0) 8 Try.underlying41 hi hz0 hz1 hz2 rfl .i64 _ _ _ rfl ob1 (some ⟨wb.heap.size, 0, none⟩) [r] 1 _ rfl hBl a63 aby abs ?_; intro v5 w5 o5 g5 hat5; obtain ⟨V5, c5, hv5⟩ := own_shape o5; subst hv5)
    have q5 := al.trans ((grown_below ob1 g5 (B := w2.heap.size) abs (Nat.le_refl _)).mono (Nat.le_refl _))
    have rT5 := rTb.below q5
    have rW5 := rWb.below q5
    have B5 := Bb.trans (q5.mono (by have := B2.size; omega))
    have z5 := q5.size
    have o6 : w5.ownsRow w2.heap.size 2 1 (.slice V5 (xs ++ [r]).length c5) (xs ++ [r]).length ((xs ++ [r]).map (Value.int .i64)) := by rw [List.length_append, List.map_append]; exact o5
    clear hat5 g5 o5 ob1 hBl rTb rWb
    go_wp2
    refine bodyPost_ret (v := .tuple #[.slice D t.length d, .slice E os.length ec, .slice V5 (xs.length + 1) c5]) (by simp [results, Try.results20, go_sem]) rfl ?_
    exact ⟨t, os, xs ++ [r], D, E, V5, d, ec, c5, by rw [List.length_append]; rfl, ht5, ht, ho, hid, by rw [List.length_append]; simp only [List.length_cons, List.length_nil]; omega, rT5.more (by omega), rW5.more (by omega), Rd.of_own (k := .i64) o6, B5⟩
  ·go_wp2_with fail
   refine (l1Next_any _ _ _ A c l w4 S4 (by omega) (by omega) (by omega)).mono ?_
   rintro e w5 ⟨i, rfl, hi0, hi1, S5, g5⟩
   have B5 := grown_from B4 g5 B4.size (Nat.le_refl _)
   have rT5 := rT4.src S4.blk S5.blk g5
   have rW5 := rW4.src S4.blk S5.blk g5
   have z5 := g5.size
   have oR5 := oR4.kept g5 (.inr (fun e => own_apart oR4 _ (.inl s2) e.symm))
   have hix : i < xs.length := by omega
   clear oR4 g5 rT4 rW4 S4 hi1
   obtain ⟨I, rfl⟩ := Int.eq_ofNat_of_zero_le hi0
   have hI : I < xs.length := by omega
   go_wp2_with fail
   refine (l1Next_any _ _ _ A c l w5 S5 (by omega) (by omega) (by omega)).mono ?_
   rintro e w6 ⟨j, rfl, hj0, hj1, S6, g6⟩
   have B6 := grown_from B5 g6 B5.size (Nat.le_refl _)
   have rT6 := rT5.src S5.blk S6.blk g6
   have rW6 := rW5.src S5.blk S6.blk g6
   have z6 := g6.size
   have oR6 := oR5.kept g6 (.inr (fun e => own_apart oR5 _ (.inl s2) e.symm))
   have hjx : j < xs.length := by omega
   clear oR5 g6 rT5 rW5 S5 hj1
   obtain ⟨J, rfl⟩ := Int.eq_ofNat_of_zero_le hj0
   have hJ : J < xs.length := by omega
   obtain ⟨gv, rfl⟩ : ∃ gv, V = some ⟨gv, 0, none⟩ := by
    rcases oR6.2 with ⟨h', h''⟩ | ⟨g, cap, cur, h', _⟩
    ·omega
    ·simp only [Value.slice.injEq, true_and] at h'
     exact ⟨g, h'.1⟩
   have hgv := oR6.lt gv rfl
   obtain ⟨x, hxe⟩ : ∃ x, x = xs[I] := ⟨_, rfl⟩
   obtain ⟨y, hye⟩ : ∃ y, y = xs[J] := ⟨_, rfl⟩
   have qI : w6.cell? ⟨gv, I, none⟩ = some (.int .i64 x) := by
    rw [oR6.cellAt I (by omega), List.getElem?_map, List.getElem?_eq_getElem hI, hxe]; rfl
   have qJ : w6.cell? ⟨gv, J, none⟩ = some (.int .i64 y) := by
    rw [oR6.cellAt J (by omega), List.getElem?_map, List.getElem?_eq_getElem hJ, hye]; rfl
   have fI := oR6.frozenAt I
   have o7 := (oR6.stored I (.int .i64 y)).1
   rw [← List.map_set] at o7
   have S7 := S6.below ((Below.refl w2.heap.size w6).setCell (p := ⟨gv, I, none⟩) hgv.1 (.int .i64 y)) s2
   have fJ := o7.frozenAt J
   have hJ7 : J < (xs.set I y).length := by rw [List.length_set]; exact hJ
   obtain ⟨z, hz⟩ : ∃ z, z = (xs.set I y)[J] := ⟨_, rfl⟩
   have qJ7 : (w6.setCell ⟨gv, I, none⟩ (.int .i64 y)).cell? ⟨gv, J, none⟩ = some (.int .i64 z) := by
    rw [o7.cellAt J (by omega), List.getElem?_map, List.getElem?_eq_getElem hJ7, hz]; rfl
   have o8 := (o7.stored J (.int .i64 x)).1
   rw [← List.map_set] at o8
   have q8 := ((Below.refl w2.heap.size w6).setCell (p := ⟨gv, I, none⟩) hgv.1 (.int .i64 y)).setCell (p := ⟨gv, J, none⟩) hgv.1 (.int .i64 x)
   have S8 := S6.below q8 s2
   have rT8 := rT6.below q8
   have rW8 := rW6.below q8
   have B8' := B6.trans (q8.mono (by have := B2.size; omega))
   have hl8 : ((xs.set I y).set J x).length = xs.length := by rw [List.length_set, List.length_set]
   have HO8 := hide o8
   clear o7 o8 oR6 S7 rT6 rW6 S6 B6 hxe hye
   go_upto_region 11 with fail
   obtain ⟨w8, hw8⟩ : ∃ W, W = (w6.setCell ⟨gv, I, none⟩ (.int .i64 y)).setCell ⟨gv, J, none⟩ (.int .i64 x) := ⟨_, rfl⟩
   have o9 := HO8.out
   rw [← hw8] at o9 S8 rT8 rW8 B8' q8 ⊢
   obtain ⟨ys, hys⟩ : ∃ ys, ys = (xs.set I y).set J x := ⟨_, rfl⟩
   rw [← hys] at o9 hl8
   have z8 := q8.size
   have o10 : w8.ownsRow w2.heap.size 2 1 (.slice (some ⟨gv, 0, none⟩) ys.length vc) ys.length (ys.map (Value.int .i64)) := by rw [hl8]; exact o9
   rw [← hl8] at hx ⊢
   clear HO8 hw8 o9 hys qI qJ fI fJ qJ7 hJ7 hz q8 hl8 hI hJ hix hjx h0
   go_wp2_with fail
   refine (l1Chance_any _ _ _ A c l _ S8 (by omega) (by omega) (by omega)).mono ?_
   rintro e wa ⟨ba, rfl, Sa, ga⟩
   have Ba := grown_from B8' ga B8'.size (Nat.le_refl _)
   have rTa := rT8.src S8.blk Sa.blk ga
   have rWa := rW8.src S8.blk Sa.blk ga
   have oRa := o10.kept ga (.inr (fun e => own_apart o10 _ (.inl s2) e.symm))
   have za := ga.size
   clear ga o10 rT8 rW8
   cases ba
   ·go_wp2
    refine bodyPost_ret (v := .tuple #[.slice D t.length d, .slice E os.length ec, .slice (some ⟨gv, 0, none⟩) ys.length vc]) (by simp [results, Try.results20, go_sem]) rfl ?_
    exact ⟨t, os, ys, D, E, (some ⟨gv, 0, none⟩), d, ec, vc, rfl, ht5, ht, ho, hid, by omega, rTa.more (by omega), rWa.more (by omega), Rd.of_own (k := .i64) oRa, Ba⟩
   ·go_wp2_with fail
    refine (l1Pick_any _ _ _ [0, 4, -1] A c l _ _ (Sa.alloc _) (by omega) (by simp) (by simp) (Bk.new _ _ _) (by have := Sa.lt; omega)).mono ?_
    rintro e wb ⟨r, rfl, hm, Sb, gb⟩
    have gb' := grown_alloc gb
    have Bb := grown_from Ba gb' Ba.size (Nat.le_refl _)
    have rTb := rTa.src Sa.blk Sb.blk gb'
    have rWb := rWa.src Sa.blk Sb.blk gb'
    have oRb := oRa.kept gb' (.inr (fun e => own_apart oRa _ (.inl s2) e.symm))
    have zb := gb'.size
    have hBl := Rd.one_new wb r 2
    have al := (Below.refl w2.heap.size wb).alloc (by omega) (Obj.cells #[.int .i64 r] 2)
    have ob1 := oRb.alloc (Obj.cells #[.int .i64 r] 2)
    have a63 : ys.length + [r].length ≤ maxLen := by unfold maxLen; simp only [List.length_cons, List.length_nil]; omega
    have aby : (ys.length + [r].length) * 8 ≤ 140737488355328 := by simp only [List.length_cons, List.length_nil]; omega
    have abs : w2.heap.size ≤ (wb.alloc (Obj.cells #[.int .i64 r] 2)).heap.size := Nat.le_trans (by omega) al.size
    clear hm gb gb' oRb oRa rTa rWa
    go_wp2_with (at_builtin; refine wpList_append_rd _ rfl _ _ 41 rfl w2.heap.size 2 i0 (.int .i64 0) 8 Try.underlying41 hi hz0 hz1 hz2 rfl .i64 _ _ _ rfl ob1 (some ⟨wb.heap.size, 0, none⟩) [r] 1 _ rfl hBl a63 aby abs ?_; intro v5 w5 o5 g5 hat5; obtain ⟨V5, c5, hv5⟩ := own_shape o5; subst hv5)
    have q5 := al.trans ((grown_below ob1 g5 (B := w2.heap.size) abs (Nat.le_refl _)).mono (Nat.le_refl _))
    have rT5 := rTb.below q5
    have rW5 := rWb.below q5
    have B5 := Bb.trans (q5.mono (by have := B2.size; omega))
    have z5 := q5.size
    have o6 : w5.ownsRow w2.heap.size 2 1 (.slice V5 (ys ++ [r]).length c5) (ys ++ [r]).length ((ys ++ [r]).map (Value.int .i64)) := by rw [List.length_append, List.map_append]; exact o5
    clear hat5 g5 o5 ob1 hBl rTb rWb
    go_wp2
    refine bodyPost_ret (v := .tuple #[.slice D t.length d, .slice E os.length ec, .slice V5 (ys.length + 1) c5]) (by simp [results, Try.results20, go_sem]) rfl ?_
    exact ⟨t, os, ys ++ [r], D, E, V5, d, ec, c5, by rw [List.length_append]; rfl, ht5, ht, ho, hid, by rw [List.length_append]; simp only [List.length_cons, List.length_nil]; omega, rT5.more (by omega), rW5.more (by omega), Rd.of_own (k := .i64) o6, B5⟩
 ·skip
  go_wp2_with fail
  refine (l1Chance_any _ _ _ A c l _ S3 (by omega) (by omega) (by omega)).mono ?_
  rintro e wa ⟨ba, rfl, Sa, ga⟩
  have Ba := grown_from B3 ga B3.size (Nat.le_refl _)
  have rTa := rT3.src S3.blk Sa.blk ga
  have rWa := rW3.src S3.blk Sa.blk ga
  have oRa := oR.kept ga (.inr (fun e => own_apart oR _ (.inl s2) e.symm))
  have za := ga.size
  clear ga oR rT3 rW3
  cases ba
  ·go_wp2
   refine bodyPost_ret (v := .tuple #[.slice D t.length d, .slice E os.length ec, .slice V xs.length vc]) (by simp [results, Try.results20, go_sem]) rfl ?_
   exact ⟨t, os, xs, D, E, V, d, ec, vc, rfl, ht5, ht, ho, hid, by omega, rTa.more (by omega), rWa.more (by omega), Rd.of_own (k := .i64) oRa, Ba⟩
  ·go_wp2_with fail
   refine (l1Pick_any _ _ _ [0, 4, -1] A c l _ _ (Sa.alloc _) (by omega) (by simp) (by simp) (Bk.new _ _ _) (by have := Sa.lt; omega)).mono ?_
   rintro e wb ⟨r, rfl, hm, Sb, gb⟩
   have gb' := grown_alloc gb
   have Bb := grown_from Ba gb' Ba.size (Nat.le_refl _)
   have rTb := rTa.src Sa.blk Sb.blk gb'
   have rWb := rWa.src Sa.blk Sb.blk gb'
   have oRb := oRa.kept gb' (.inr (fun e => own_apart oRa _ (.inl s2) e.symm))
   have zb := gb'.size
   have hBl := Rd.one_new wb r 2
   have al := (Below.refl w2.heap.size wb).alloc (by omega) (Obj.cells #[.int .i64 r] 2)
   have ob1 := oRb.alloc (Obj.cells #[.int .i64 r] 2)
   have a63 : xs.length + [r].length ≤ maxLen := by unfold maxLen; simp only [List.length_cons, List.length_nil]; omega
   have aby : (xs.length + [r].length) * 8 ≤ 140737488355328 := by simp only [List.length_cons, List.length_nil]; omega
   have abs : w2.heap.size ≤ (wb.alloc (Obj.cells #[.int .i64 r] 2)).heap.size := Nat.le_trans (by omega) al.size
   clear hm gb gb' oRb oRa rTa rWa
   go_wp2_with (at_builtin; refine wpList_append_rd _ rfl _ _ 41 rfl w2.heap.size 2 i0 (.int .i64 0) 8 Try.underlying41 hi hz0 hz1 hz2 rfl .i64 _ _ _ rfl ob1 (some ⟨wb.heap.size, 0, none⟩) [r] 1 _ rfl hBl a63 aby abs ?_; intro v5 w5 o5 g5 hat5; obtain ⟨V5, c5, hv5⟩ := own_shape o5; subst hv5)
   have q5 := al.trans ((grown_below ob1 g5 (B := w2.heap.size) abs (Nat.le_refl _)).mono (Nat.le_refl _))
   have rT5 := rTb.below q5
   have rW5 := rWb.below q5
   have B5 := Bb.trans (q5.mono (by have := B2.size; omega))
   have z5 := q5.size
   have o6 : w5.ownsRow w2.heap.size 2 1 (.slice V5 (xs ++ [r]).length c5) (xs ++ [r]).length ((xs ++ [r]).map (Value.int .i64)) := by rw [List.length_append, List.map_append]; exact o5
   clear hat5 g5 o5 ob1 hBl rTb rWb
   go_wp2
   refine bodyPost_ret (v := .tuple #[.slice D t.length d, .slice E os.length ec, .slice V5 (xs.length + 1) c5]) (by simp [results, Try.results20, go_sem]) rfl ?_
   exact ⟨t, os, xs ++ [r], D, E, V5, d, ec, c5, by rw [List.length_append]; rfl, ht5, ht, ho, hid, by rw [List.length_append]; simp only [List.length_cons, List.length_nil]; omega, rT5.more (by omega), rW5.more (by omega), Rd.of_own (k := .i64) o6, B5⟩
end Go.Proofs.Ytnnfkmjhaljplaa
namespace Go.Proofs.Ytnnfkmjhaljplaa
open Go.RowKit
/-- The first is the second, or stands ahead of it. -/
def lexLe : List Int → List Int → Bool
 | [], _ => true
 | _ :: _, [] => false
 | x :: a, y :: b => if x = y then lexLe a b else decide (x < y)
theorem lexLe_drop {a b : List Int} {k : Nat} (ha : k < a.length) (hb : k < b.length) : lexLe (a.drop k) (b.drop k) = if a[k] = b[k] then lexLe (a.drop (k + 1)) (b.drop (k + 1)) else decide (a[k] < b[k]) := by
 rw [List.drop_eq_getElem_cons ha, List.drop_eq_getElem_cons hb]
 rfl
theorem lexLe_end {a b : List Int} {k : Nat} (hk : k ≤ a.length) (hk2 : k ≤ b.length) (h : ¬ (k < a.length ∧ k < b.length)) : lexLe (a.drop k) (b.drop k) = decide (a.length ≤ b.length) := by
 by_cases ha : k < a.length
 ·have hb : b.drop k = [] := List.drop_eq_nil_of_le (by omega)
  rw [List.drop_eq_getElem_cons ha, hb]
  exact (decide_eq_false (by omega)).symm
 ·have hb : a.drop k = [] := List.drop_eq_nil_of_le (by omega)
  rw [hb]
  exact (decide_eq_true (by omega)).symm
theorem lexLe_of : ∀ {a b : List Int}, lexI a b → lexLe a b = true
 | [], _, _ => rfl
 | _ :: _, [], h => h.elim
 | x :: a, y :: b, h => by
  show (if x = y then lexLe a b else decide (x < y)) = true
  rcases h with h | ⟨rfl, h⟩
  ·rw [if_neg (by omega)]
   exact decide_eq_true h
  ·rw [if_pos rfl]
   exact lexLe_of h
set_option maxRecDepth 100000 in
set_option maxHeartbeats 800000 in
theorem lwFirst_any (a b : List Int) (A A' : Option Addr) (c c' : Nat) (w : World) (hm : a.length ≤ maxLen) (h : Rd .i64 w w.heap.size A a) (h' : Rd .i64 w w.heap.size A' b) :
  Calls Try.prog 24 #[.slice A a.length c, .slice A' b.length c'] w fun e w' => e = .returned (.bool (lexLe a b)) ∧ Below w.heap.size w w' := by
 unfold maxLen at hm
 go_enter Try.func24, Try.ntmps24
 go_wp2
 go_loopw [5] (fun i wr => ∃ k : Nat, k ≤ a.length ∧ k ≤ b.length ∧ i = .int .i64 k ∧ Below w.heap.size w wr ∧ Hid (lexLe a b = lexLe (a.drop k) (b.drop k))) (fun i _ => a.length - (intOf i).toNat)
 case atStart => exact ⟨0, Nat.zero_le _, Nat.zero_le _, rfl, Below.refl _ _, hide rfl⟩
 case round =>
  obtain ⟨k, hk, hk2, rfl, hb, HL⟩ := hrel
  by_cases hlt : k < a.length
  ·by_cases hlt' : k < b.length
   ·have HN := hide (HL.out.trans (lexLe_drop hlt hlt'))
    obtain ⟨g, off, rfl, hbb, hc⟩ := (h.below hb).get hlt
    obtain ⟨g', off', rfl, hbb', hc'⟩ := (h'.below hb).get hlt'
    obtain ⟨x, hx⟩ : ∃ x, x = a[k] := ⟨_, rfl⟩
    obtain ⟨y, hy⟩ : ∃ y, y = b[k] := ⟨_, rfl⟩
    rw [← hx] at hc HN
    rw [← hy] at hc' HN
    clear hx hy HL
    by_cases he : x = y
    ·have HE := hide (HN.out.trans (if_pos he))
     have g0 : (x != y) = false := by rw [he]; simp
     clear HN he
     go_wp2
     go_quiet (fail)
     go_wp2
     go_roundw
     case rel => exact ⟨k + 1, by omega, by omega, by go_num, below_drewN hb _, HE⟩
     case measure => simp [intOf]; omega
    ·have HE := hide (HN.out.trans (if_neg he))
     have g0 : (x != y) = true := bne_iff_ne.2 he
     clear HN he
     go_wp2
     go_quiet (fail)
     go_wp2
     go_quiet (fail)
     go_wp2
     go_ret
     exact ⟨ret_bool HE.out.symm, below_drewN (below_drewN hb _) _⟩
   ·have HE := hide (HL.out.trans (lexLe_end hk hk2 (by omega)))
    clear HL
    go_wp2
    go_ret
    exact ⟨ret_bool (by rw [HE.out]), hb⟩
  ·have HE := hide (HL.out.trans (lexLe_end hk hk2 (by omega)))
   clear HL
   go_wp2
   go_ret
   exact ⟨ret_bool (by rw [HE.out]), hb⟩
end Go.Proofs.Ytnnfkmjhaljplaa
