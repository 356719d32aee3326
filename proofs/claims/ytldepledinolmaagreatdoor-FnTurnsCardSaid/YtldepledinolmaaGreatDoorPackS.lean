/- Contracts of the model's packing of steps. -/
import Derived.Test.YtldepledinolmaaGreatDoorGEv
import Derived.Test.YtldepledinolmaaGreatDoorPut
import Derived.Test.YtldepledinolmaaGreatDoorGApp
import Derived.Deep.RegionWith
import Derived.Deep.RegionHeld3
import Derived.IntWalk
import Derived.Deep.DeepCutAuto
namespace Go.Proofs.YtldepledinolmaaGreatDoor
open Go.RowKit

theorem l1Zig_any (n : Int) (w : World) (h : -1000000000000 ≤ n ∧ n ≤ 1000000000000) :
    Calls Tryz.prog 104 #[.int .i64 n] w fun e w' => e = .returned (.int .i64 (zigI n)) ∧ w = w' := by
  obtain ⟨h1, h2⟩ := h
  by_cases h0 : 0 ≤ n
  · rw [zigI_pos h0]
    go_enter Tryz.func104, Tryz.ntmps104
    go_wp2
    go_ret
    exact ⟨rfl, rfl⟩
  · rw [zigI_neg h0]
    go_enter Tryz.func104, Tryz.ntmps104
    go_wp2
    go_ret
    exact ⟨rfl, rfl⟩

/-- A row of bytes of the call's own, and all that was there is as it was. -/
def OwnB (W : World) (xs : List Int) (v : Value) (w : World) : Prop := w.ownsRow W.heap.size 5 1 v xs.length (xs.map (Value.int .u8)) ∧ Below W.heap.size W w
theorem OwnB.more {W w w' : World} {xs l : List Int} {v v' : Value} (h : OwnB W xs v w) (ho : w'.ownsRow W.heap.size 5 1 v' (xs.length + l.length) (xs.map (Value.int .u8) ++ l.map (Value.int .u8))) (hg : w.grownBy w' v.ownBlock) : OwnB W (xs ++ l) v' w' :=
  ⟨by rw [List.length_append, List.map_append]; exact ho, h.2.trans (grown_below h.1 hg h.2.size (Nat.le_refl _))⟩
theorem OwnB.below {W w w' : World} {xs : List Int} {v : Value} (h : OwnB W xs v w) (hb : Below w.heap.size w w') : OwnB W xs v w' :=
  ⟨own_below h.1 hb (Nat.le_refl _), h.2.trans (hb.mono h.2.size)⟩
theorem OwnB.drew {W w : World} {xs : List Int} {v : Value} (h : OwnB W xs v w) : OwnB W xs v w.drew := h.below (Below.refl _ _).drew

set_option maxRecDepth 100000 in
set_option maxHeartbeats 1000000 in
theorem l2Pack_any (es : List Ev) (A : Option Addr) (c : Nat) (w : World) (hs : stF es = 0) (h : RdE w w.heap.size A es) :
    Calls Tryz.prog 96 #[.slice A es.length c] w fun e w' => ∃ A c, e = .returned (.slice A (packL 0 es).length c) ∧ OwnB w (packL 0 es) (.slice A (packL 0 es).length c) w' := by
  obtain ⟨h8, h0⟩ := stF_zero hs
  have hall := evsF_all h0
  obtain ⟨i0, hi, hz0, hz1, hz2⟩ := info_parts info_u8
  have HA := hide hall
  clear hs h0 hall
  go_enter Tryz.func96, Tryz.ntmps96
  go_wp2
  go_loopw [3, 4, 9] (fun v p i wr => ∃ k : Nat, k ≤ es.length ∧ i = .int .i64 k ∧ p = .int .i64 (lastA 0 (es.take k)) ∧ OwnB w (packL 0 (es.take k)) v wr) (fun _ _ i _ => es.length - (intOf i).toNat)
  case atStart => exact ⟨0, Nat.zero_le _, rfl, rfl, World.ownsRow_lit w #[] 0 (Nat.le_refl _) (by simp) rfl, (Below.refl _ _).alloc (Nat.le_refl _) _⟩
  case round =>
    obtain ⟨k, hk, rfl, rfl, ho⟩ := hrel
    by_cases hlt : k < es.length
    · have hE : evF es[k] = 0 := HA.out _ (List.getElem_mem hlt)
      have hL := lastA_in 0 (es.take k) (fun e he => HA.out e (List.mem_of_mem_take he)) (by omega)
      have hB := evB_in hE hL
      have hZ := zigI_in (n := es[k].a - lastA 0 (es.take k)) (by have := evF_zero hE; omega)
      have hev := evF_zero hE
      have hpl := packL_len (es.take k) 0 (by
        have : ∀ l : List Ev, (∀ e ∈ l, evF e = 0) → evsF l = 0 := by
          intro l hl
          induction l with
          | nil => rfl
          | cons x r ih => rw [evsF, if_pos (hl x (by simp))]; exact ih (fun e he => hl e (by simp [he]))
        exact this _ (fun e he => HA.out e (List.mem_of_mem_take he))) (by omega)
      have hpk : (packL 0 (es.take k)).length ≤ 144 := by rw [List.length_take] at hpl; omega
      clear hpl
      have HP := hide (show packL 0 (es.take (k + 1)) = packL 0 (es.take k) ++ (putL (2 * zigI (es[k].a - lastA 0 (es.take k)) + es[k].k) ++ putL es[k].v) by rw [take_snoc es k hlt, packL_snoc]; rfl)
      have HQ := hide (show lastA 0 (es.take (k + 1)) = es[k].a by rw [take_snoc es k hlt, lastA_snoc])
      obtain ⟨b, off, rfl, hbb, hc0, hc1, hc2⟩ := h.get hlt
      obtain ⟨L, hLe⟩ : ∃ L, L = lastA 0 (es.take k) := ⟨_, rfl⟩
      obtain ⟨xs, hxs⟩ : ∃ xs, xs = packL 0 (es.take k) := ⟨_, rfl⟩
      obtain ⟨K, hK⟩ : ∃ K, K = es[k].k := ⟨_, rfl⟩
      obtain ⟨a, ha⟩ : ∃ a, a = es[k].a := ⟨_, rfl⟩
      obtain ⟨v', hv⟩ : ∃ v, v = es[k].v := ⟨_, rfl⟩
      rw [← hLe] at hL hB hZ HP
      rw [← hxs] at ho hpk HP
      rw [← hK] at hB hc0 HP hev
      rw [← ha] at hB hZ hc1 HP HQ hev
      rw [← hv] at hB hc2 HP hev
      obtain ⟨Z, hZe⟩ : ∃ Z, Z = zigI (a - L) := ⟨_, rfl⟩
      have ZC := hide (fun W => l1Zig_any (a - L) W (by omega))
      rw [← hZe] at hB hZ HP ZC
      obtain ⟨p1, hp1⟩ : ∃ p, p = putL (2 * Z + K) := ⟨_, rfl⟩
      obtain ⟨p2, hp2⟩ : ∃ p, p = putL v' := ⟨_, rfl⟩
      have PC1 := hide (fun W => l1Put_any (2 * Z + K) W hB.1 (by omega))
      have PC2 := hide (fun W => l1Put_any v' W hB.2.2.1 (by omega))
      have l1 := putL_len hB.1 (by omega)
      have l2 := putL_len hB.2.2.1 (by omega)
      rw [← hp1] at PC1 l1 HP
      rw [← hp2] at PC2 l2 HP
      rw [← hLe]
      have HL2 := hide hLe
      clear hLe hxs hK ha hv hZe hp1 hp2 hE
      obtain ⟨hB1, hB2, hB3, hB4⟩ := hB
      obtain ⟨hZ1, hZ2⟩ := hZ
      obtain ⟨hL1, hL2⟩ := hL
      have hK2 : 0 ≤ K ∧ K ≤ 1 := by omega
      obtain ⟨_, ha1, ha2, hv1, hv2⟩ := hev
      have s0 : IntKind.i64.wrap (a - L) = a - L := IntWalk.i64_in _ (by omega)
      have s1 : IntKind.i64.wrap (2 * Z) = 2 * Z := IntWalk.i64_in _ (by omega)
      have s2 : IntKind.i64.wrap (2 * Z + K) = 2 * Z + K := IntWalk.i64_in _ (by omega)
      go_wp2_with fail
      go_cut [3] (fun s3 wx => OwnB w (xs ++ p1) s3 wx)
      case first =>
        have hd0 := cell_kept ho.2 hc0
        have hd1 := cell_kept ho.2 hc1
        go_region_held3 (fun w' => w'.cell? ⟨b, off + k * 3, none⟩ = some (.int .i64 K) ∧ w'.cell? ⟨b, off + k * 3 + 1, none⟩ = some (.int .i64 a))
          (first | assumption | exact ⟨hd0, hd1⟩ | exact ⟨cell_kept (show Below w.heap.size w _ by assumption) hc0, cell_kept (show Below w.heap.size w _ by assumption) hc1⟩)
          (first
            | (go_at_call 104; refine (ZC.out _).mono ?_; rintro e wa ⟨rfl, rfl⟩)
            | (go_at_call 97; refine (PC1.out _).mono ?_; rintro e wa ⟨A1, c1, rfl, oa, ba⟩; have HA : Below wr.heap.size wr wa := (Below.refl _ _).drew.trans ba; have HAw := (ho.below HA).2)
            | (refine step_append_rd _ (by rfl) (.tmp 12) (.tmp 28) 22 (by rfl) w.heap.size 5 i0 (.int .u8 0) 1 Tryz.underlying22 hi hz0 hz1 hz2 rfl .u8 u3 xs.length (xs.map (Value.int .u8)) (by rfl) (ho.below HA).1 A1 p1 c1 _ (by rfl) (Rd.of_own oa) (by unfold maxLen; omega) (by omega) (ho.below HA).2.size ?_; intro v1 wb o1 g1 hat1; have HO : OwnB w (xs ++ p1) v1 wb := (ho.below HA).more o1 g1; have HBw := HO.2; clear g1 hat1))
        go_wp2_with fail
        go_meet
        exact HO
      case rest =>
        clear s0 s1 s2 ho
        have hd2 := cell_kept hcut.2 hc2
        go_wp2_with fail
        refine (PC2.out _).mono ?_
        rintro e wa ⟨A2, c2, rfl, oa, ba⟩
        have hA := hcut.below ba
        have xp : (xs ++ p1).length ≤ 153 := by rw [List.length_append]; omega
        clear hcut ba hd2
        go_wp2_with (at_builtin; refine wpList_append_rd _ rfl (.tmp 30) (.tmp 36) 22 rfl w.heap.size 5 i0 (.int .u8 0) 1 Tryz.underlying22 hi hz0 hz1 hz2 rfl .u8 _ _ _ rfl hA.1 A2 p2 c2 _ rfl (Rd.of_own oa) (by unfold maxLen; omega) (by omega) hA.2.size ?_; intro v2 wb o2 g2 hat2; have HO := hA.more o2 g2; have hd1 := cell_kept HO.2 hc1; clear g2 hat2 o2)
        go_roundw
        case rel => exact ⟨k + 1, by omega, by go_num, by rw [HQ.out], by rw [HP.out, ← List.append_assoc]; exact HO⟩
        case measure => simp [intOf]; omega
    · obtain rfl : k = es.length := by omega
      rw [List.take_length] at ho
      obtain ⟨A', c', rfl⟩ := own_shape ho.1
      go_wp2
      go_ret
      exact ⟨A', c', rfl, ho⟩
end Go.Proofs.YtldepledinolmaaGreatDoor
