/- Contracts of PackFrame, in the program and in its model. -/
import Derived.Test.YtmnpiakcppcmgaaFrMath
import Derived.Test.YtmnpiakcppcmgaaPackI
namespace Go.Proofs.Ytmnpiakcppcmgaa
open Go.RowKit

set_option maxRecDepth 100000 in
set_option maxHeartbeats 1000000 in
theorem l3Pack_any (k : Int) (es : List Ev) (A : Option Addr) (c : Nat) (w : World) (h0 : 0 ≤ k) (h1 : k ≤ 3) (hs : stF es = 0) (h : RdE w w.heap.size A es) :
    Calls Try.prog 20 #[.int .i64 k, .slice A es.length c] w fun e w' => ∃ A c, e = .returned (.slice A (frL k (packL 0 es)).length c) ∧ OwnB w (frL k (packL 0 es)) (.slice A (frL k (packL 0 es)).length c) w' := by
  obtain ⟨i0, hi, hz0, hz1, hz2⟩ := info_parts info_u8
  have LP := hide (l2Pack_any es A c w hs h)
  have pl := packL_len8 hs
  have p8 : B8 (packL 0 es) := packL_B8 es 0 (stF_zero hs).2 (by omega)
  obtain ⟨p, hp⟩ : ∃ p, p = packL 0 es := ⟨_, rfl⟩
  rw [← hp] at LP pl p8 ⊢
  clear hp hs
  have PP := hide (fun W => l1Put_any (p.length : Int) W (by omega) (by omega))
  obtain ⟨q, hq⟩ : ∃ q, q = putL (p.length : Int) := ⟨_, rfl⟩
  have ql : q.length ≤ 2 := by rw [hq]; exact putL_short (by omega) (by omega)
  rw [← hq] at PP
  have HD : Hid (hdL k p = ([66, k] ++ q) ++ p) := hide (by unfold hdL; rw [hq])
  have hdl := hdL_len (k := k) pl
  have hd8 := hdL_B8 h0 h1 p8
  clear hq
  obtain ⟨hd, hhd⟩ : ∃ hd, hd = hdL k p := ⟨_, rfl⟩
  have CR := hide (fun A c W hR => l1Crc_any hd A c W (by rw [hhd]; omega) hR (by rw [hhd]; exact hd8))
  have FL : Hid (frL k p = hd ++ fourL (crcV hd)) := hide (by rw [hhd]; rfl)
  rw [← hhd] at HD hdl hd8
  have hcv : ((crcS 4294967295 hd ^^^ 4294967295 : Nat) : Int) = crcV hd := by unfold crcV; rw [if_pos (by omega)]
  rw [hcv] at CR
  have hbd := crcV_bd hd8
  obtain ⟨V, hV⟩ : ∃ V, V = crcV hd := ⟨_, rfl⟩
  rw [← hV] at CR FL hbd
  have FR := hide (fun W => l1Four_any V W hbd)
  clear hV hcv hhd
  go_enter Try.func20, Try.ntmps20
  go_wp2_with fail
  refine LP.out.mono ?_
  rintro e w1 ⟨A1, c1, rfl, o1, B1⟩
  have r1 := Rd.of_own o1
  clear o1
  go_wp2_with fail
  have ob : OwnB w1 [66, k] (.slice (some ⟨w1.heap.size, 0, none⟩) 2 2) (w1.alloc (Obj.cells #[.int .u8 66, .int .u8 k] 5)) := ⟨World.ownsRow_lit w1 #[.int .u8 66, .int .u8 k] 2 (Nat.le_refl _) (by unfold maxLen; omega) rfl, (Below.refl _ _).alloc (Nat.le_refl _) _⟩
  refine (PP.out _).mono ?_
  rintro e w2 ⟨A2, c2, rfl, o2, b2⟩
  have ob2 := ob.below b2
  have x2 : ([66, k] : List Int).length = 2 := rfl
  clear ob b2
  generalize Value.slice (some ⟨w1.heap.size, 0, none⟩) 2 2 = v2 at *
  go_wp2_with (at_builtin; first
    | (refine wpList_append_rd _ rfl (.tmp 11) (.tmp 14) 35 rfl w1.heap.size 5 i0 (.int .u8 0) 1 Try.underlying35 hi hz0 hz1 hz2 rfl .u8 v2 _ _ rfl ob2.1 A2 q c2 _ rfl (Rd.of_own o2) (by unfold maxLen; omega) (by omega) ob2.2.size ?_; intro v3 w3 o3 g3 hat3; have ob3 := ob2.more o3 g3; have x3 : ([66, k] ++ q).length ≤ 4 := (by rw [List.length_append]; omega); clear g3 hat3 o3 ob2 o2; have r3 := r1.below ob3.2)
    | (refine wpList_append_rd _ rfl (.tmp 16) (.tmp 17) 35 rfl w1.heap.size 5 i0 (.int .u8 0) 1 Try.underlying35 hi hz0 hz1 hz2 rfl .u8 v3 _ _ rfl ob3.1 A1 p c1 _ rfl r3 (by unfold maxLen; omega) (by omega) ob3.2.size ?_; intro v4 w4 o4 g4 hat4; have ob4 := ob3.more o4 g4; clear g4 hat4 o4 ob3 r3; rw [← HD.out] at ob4; obtain ⟨A4, c4, hv4⟩ := own_shape ob4.1; rw [hv4] at ob4; rw [hv4]; have r4 := Rd.of_own ob4.1; clear hv4))
  refine (CR.out _ _ _ r4).mono ?_
  rintro e w5 ⟨rfl, rfl⟩
  go_wp2_with fail
  refine (FR.out _).mono ?_
  rintro e w5 ⟨g5, rfl, o5, b5⟩
  have ob5 := ob4.below b5
  clear ob4 b5 r4
  generalize Value.slice A4 hd.length c4 = v5 at *
  go_wp2_with (at_builtin; (refine wpList_append_rd _ rfl (.tmp 19) (.tmp 22) 35 rfl w1.heap.size 5 i0 (.int .u8 0) 1 Try.underlying35 hi hz0 hz1 hz2 rfl .u8 v5 _ _ rfl ob5.1 (some ⟨g5, 0, none⟩) (fourL V) 4 _ rfl (Rd.of_own o5) (by unfold maxLen; rw [fourL_length]; omega) (by rw [fourL_length]; omega) ob5.2.size ?_; intro v6 w6 o6 g6 hat6; have ob6 := ob5.more o6 g6; rw [← FL.out] at ob6; clear g6 hat6 o6 ob5 o5; obtain ⟨A6, c6, hv6⟩ := own_shape ob6.1; rw [hv6] at ob6; rw [hv6]; clear hv6))
  go_ret
  exact ⟨A6, c6, rfl, own_mono ob6.1 B1.size, B1.trans (ob6.2.mono B1.size)⟩
end Go.Proofs.Ytmnpiakcppcmgaa
