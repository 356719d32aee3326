/- The draw of bytes to read steps of. -/
import Derived.Test.YtjdbakebcdkfcaaSpoil
import Derived.Test.YtjdbakebcdkfcaaPackI
namespace Go.Proofs.Ytjdbakebcdkfcaa
open Go.RowKit

set_option maxRecDepth 100000 in
set_option maxHeartbeats 1600000 in
theorem DrawUnpackSteps_any (l : List Int) (A : Option Addr) (c : Nat) (w : World) (hl : l.length ≤ 1048576) (hR : Rd .u8 w w.heap.size A l) (b8 : B8 l) :
    Calls Try.prog 14 #[.slice A l.length c] w (BytPost w.heap.size 4001 w) := by
  obtain ⟨i0, hi, hz0, hz1, hz2⟩ := info_parts info_u8
  go_enter Try.func14, Try.ntmps14
  go_wp2_with fail
  refine (l1Source_any l A c w hR b8 hl).mono ?_
  rintro e w1 ⟨rfl, S1, B1⟩
  go_wp2_with fail
  refine (l1Chance_any _ _ 40 A c l w1 S1 (by omega) (by omega) (by omega)).mono ?_
  rintro e w2 ⟨b, rfl, S2, g2⟩
  have B2 := B1.grown g2 B1.size (fun k hk => by simp at hk; omega)
  have z2 := S2.lt
  clear g2 B1 S1
  cases b
  · go_wp2_with fail
    refine (l2Steps_any _ _ 8 A c l w2 S2 (by omega) (by omega)).mono ?_
    rintro e w3 ⟨es, D, d, rfl, hes, hev, o3, k3, hk3, S3, g3⟩
    have B3 := B2.grown g3 B2.size (fun k hk => by simp at hk; omega)
    have z3 := S3.lt
    have hst : stF es = 0 := by rw [stF_few hes, evsF_of es hev]
    have hp8 : B8 (packL 0 es) := packL_B8 es 0 (evsF_of es hev) (by omega)
    have hpl := packL_len es 0 (evsF_of es hev) (by omega)
    have r3 := RdE.of_own o3
    have LP := hide (l2Pack_any es D d w3 hst r3)
    clear g3 B2 S2 hst o3 hev
    go_wp2_with fail
    refine LP.out.mono ?_
    rintro e w4 ⟨D4, d4, rfl, o4, b4⟩
    have S4 := S3.below b4 z3
    have B4 := B3.trans (b4.mono B3.size)
    have z4 := b4.size
    clear b4 B3 S3 LP r3
    go_wp2_with fail
    refine (l2Spoil_any w.heap.size k3 w3.heap.size w.heap.size A c l w4 S4 (by omega) (packL 0 es) D4 d4 (by omega) hp8 o4 z3 z4 (Nat.le_refl _)).mono ?_
    rintro e w5 ⟨ys, D5, d5, rfl, h1, h2, h3, h4, h5⟩
    go_wp2
    go_ret
    exact ⟨ys, D5, d5, rfl, by omega, h2, h3, h4, B4.trans h5⟩
  · go_wp2_with fail
    refine (l1Pick_any _ _ _ [16, 18, 4000, 4001] A c l _ _ (S2.alloc _) (by omega) (by simp) (by simp) (Bk.new _ _ _) (by have := S2.lt; omega)).mono ?_
    rintro e w3 ⟨r, rfl, hm, S3, g3⟩
    have hm' : r = 16 ∨ r = 18 ∨ r = 4000 ∨ r = 4001 := by simpa using hm
    obtain ⟨n, rfl⟩ := Int.eq_ofNat_of_zero_le (show 0 ≤ r by omega)
    have hn : n ≤ 4001 := by omega
    have B3 := (B2.alloc B2.size (.cells #[.int .i64 16, .int .i64 18, .int .i64 4000, .int .i64 4001] 2)).grown g3 (by simp; omega) (fun k hk => by simp at hk; omega)
    clear hm hm' g3 B2 S2 S3
    go_wp2_with (at_make; refine wpList_make_full _ rfl _ _ 22 rfl w3.heap.size 5 i0 (.int .u8 0) 1 Try.underlying22 hi hz0 hz1 .i64 .i64 _ _ n rfl rfl rfl rfl (by rw [hz2]; omega) (by unfold maxLen; omega) (Nat.le_refl _) ?_; intro w4 hown hg)
    rw [made_u8] at hown
    have B4 := B3.trans (((Below.refl _ _).grown hg (Nat.le_refl _) (by simp)).mono B3.size)
    have hmap : List.replicate n (Value.int IntKind.u8 0) = (List.replicate n 0).map (Value.int .u8) := by rw [List.map_replicate]
    rw [hmap] at hown
    have hlen : (List.replicate n (0 : Int)).length = n := List.length_replicate
    have HL := hide hlen
    have HO := hide hown
    clear hg hlen hmap hown
    go_wp2
    go_ret
    have ho := HO.out
    have hr := Rd.of_own (k := .u8) (l := List.replicate n 0) ho
    exact ⟨List.replicate n 0, some ⟨w3.heap.size, 0, none⟩, n, (by rw [HL.out]; rfl), by rw [HL.out]; omega, by rw [HL.out]; exact Nat.le_refl _, fun x hx => by rw [List.eq_of_mem_replicate hx]; omega, hr, B4⟩
end Go.Proofs.Ytjdbakebcdkfcaa
