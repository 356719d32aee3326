/- Contracts of the program's PackSteps. -/
import Derived.Test.YtldepledinolmaaGreatDoorPackS
import Derived.OneCell
import Derived.Test.YtldepledinolmaaGreatDoorGEv
namespace Go.Proofs.YtldepledinolmaaGreatDoor
open Go.RowKit

theorem field_bytes (a : Int) (D : Option Addr) (n d : Nat) (W : World) : (Instr.field 35 (.agg #[.int .i64 a, .slice D n d]) 1).run Tryz.prog W = .ok (.slice D n d) W := by kernel_rfl
theorem field_value (a b : Int) (W : World) : (Instr.field 63 (.agg #[.int .i64 a, .int .i64 b]) 1).run Tryz.prog W = .ok (.int .i64 b) W := by kernel_rfl
theorem evsF_of : ∀ l : List Ev, (∀ e ∈ l, evF e = 0) → evsF l = 0
  | [], _ => rfl
  | x :: r, hl => by rw [evsF, if_pos (hl x (by simp))]; exact evsF_of r (fun e he => hl e (by simp [he]))

theorem deltas_any (w : World) :
    Calls Tryz.prog 91 #[] w fun e w' => e = .returned (.func (.func 101) #[] #[.pointer (some ⟨w.heap.size, 0, none⟩)]) ∧ w' = w.alloc (.cells #[.int .i64 0] 2) := by
  go_enter Tryz.func91, Tryz.ntmps91
  go_wp2
  go_ret
  exact ⟨rfl, rfl⟩

/-- The closure: how far an address is from the one ahead of it. -/
theorem delta_any (n p : Int) (g : Nat) (w : World) (hn : -1000000000 ≤ n ∧ n ≤ 1000000000) (hp : -1000000000 ≤ p ∧ p ≤ 1000000000) (hg : Bk w g #[.int .i64 p] 2) :
    Calls Tryz.prog 101 #[.int .i64 n, .pointer (some ⟨g, 0, none⟩)] w fun e w' => e = .returned (.int .i64 (n - p)) ∧ w' = w.setCell ⟨g, 0, none⟩ (.int .i64 n) := by
  have hc : w.cell? ⟨g, 0, none⟩ = some (.int .i64 p) := by rw [hg.cell 0]; rfl
  have hf := hg.frozen 0
  go_enter Tryz.func101, Tryz.ntmps101
  go_wp2
  go_ret
  exact ⟨rfl, rfl⟩

/-- A row of bytes of the call's own; the captured variable in block g; and all that was there in W is as it was. -/
structure OwnD (W : World) (base g : Nat) (p : Int) (xs : List Int) (v : Value) (w : World) : Prop where
  row : w.ownsRow base 5 1 v xs.length (xs.map (Value.int .u8))
  old : Below W.heap.size W w
  var : Bk w g #[.int .i64 p] 2
  lo : W.heap.size ≤ g
  hi : g < base
  top : base ≤ w.heap.size
section
variable {W w w' : World} {base g : Nat} {p : Int} {xs l : List Int} {v v' : Value}
theorem OwnD.more (h : OwnD W base g p xs v w) (ho : w'.ownsRow base 5 1 v' (xs.length + l.length) (xs.map (Value.int .u8) ++ l.map (Value.int .u8))) (hg : w.grownBy w' v.ownBlock) : OwnD W base g p (xs ++ l) v' w' :=
  ⟨by rw [List.length_append, List.map_append]; exact ho, h.old.trans (grown_below h.row hg h.old.size (by have := h.lo; have := h.hi; omega)), h.var.grown hg (own_apart h.row _ (.inl h.hi)), h.lo, h.hi, by have := h.top; have := hg.size; omega⟩
theorem OwnD.below (h : OwnD W base g p xs v w) (hb : Below w.heap.size w w') : OwnD W base g p xs v w' :=
  ⟨own_below h.row hb (Nat.le_refl _), h.old.trans (hb.mono h.old.size), h.var.kept hb, h.lo, h.hi, by have := h.top; have := hb.size; omega⟩
theorem OwnD.alloc (h : OwnD W base g p xs v w) (o : Obj) : OwnD W base g p xs v (w.alloc o) := h.below ((Below.refl _ _).alloc (Nat.le_refl _) _)
theorem OwnD.drew (h : OwnD W base g p xs v w) : OwnD W base g p xs v w.drew := h.below (Below.refl _ _).drew
theorem OwnD.turn (h : OwnD W base g p xs v w) (n : Int) : OwnD W base g n xs v (w.setCell ⟨g, 0, none⟩ (.int .i64 n)) :=
  ⟨ownsRow_setCell_below h.row (a := ⟨g, 0, none⟩) h.hi _, h.old.setCell h.lo _, by have := h.var.set_ 0 (.int .i64 n); exact this, h.lo, h.hi, by have := h.top; simpa using this⟩
end

set_option maxRecDepth 100000 in
set_option maxHeartbeats 1000000 in
theorem implPack_any (es : List Ev) (A : Option Addr) (c : Nat) (w : World) (hm : es.length ≤ maxLen) (h : RdE w w.heap.size A es) :
    Calls Tryz.prog 74 #[.slice A es.length c] w fun e w' => ∃ A c, e = .returned (.agg #[.int .i64 (pkC es), .slice A (pkB es).length c]) ∧ w'.ownsRow w.heap.size 5 1 (.slice A (pkB es).length c) (pkB es).length ((pkB es).map (Value.int .u8)) ∧ Below w.heap.size w w' := by
  obtain ⟨W, hW⟩ : ∃ W, W = w.alloc (Obj.cells #[Value.int .i64 0, .slice none 0 0] 35) := ⟨_, rfl⟩
  have HW := hide hW
  have hR : RdE W W.heap.size A es := by subst hW; exact (h.alloc (Nat.le_refl _) _).lt
  clear hW
  have SF := hide (implStF_any es A c W hm hR)
  by_cases hs : stF es = 0
  · have hC : pkC es = 0 := hs
    rw [hC, pk_ok hs]
    rw [hs] at SF
    obtain ⟨h8, h0⟩ := stF_zero hs
    have HA := hide (evsF_all h0)
    obtain ⟨i0, hi, hz0, hz1, hz2⟩ := info_parts info_u8
    clear hs hC h0
    go_enter Tryz.func74, Tryz.ntmps74
    go_wp2_with fail
    rw [← HW.out]
    refine SF.out.mono ?_
    rintro e w1 ⟨rfl, b1⟩
    have z1 := b1.size
    go_wp2_with fail
    refine (deltas_any w1).mono ?_
    rintro e w2 ⟨rfl, rfl⟩
    have hO : OwnD W (w1.heap.size + 1) w1.heap.size 0 [] (.slice none 0 0) (w1.alloc (.cells #[.int .i64 0] 2)) := ⟨World.ownsRow_nil _ _ _ _, b1.alloc b1.size _, Bk.new _ _ _, z1, Nat.lt_succ_self _, by simp⟩
    obtain ⟨base, hbase⟩ : ∃ b, b = w1.heap.size + 1 := ⟨_, rfl⟩
    obtain ⟨g, hg⟩ : ∃ b, b = w1.heap.size := ⟨_, rfl⟩
    rw [← hbase, ← hg] at hO
    rw [← hg]
    generalize hV : w1.alloc (.cells #[.int .i64 0] 2) = V at hO
    clear hV hbase hg z1 b1
    go_wp2
    go_loopw [5, 18] (fun v i wr => ∃ k : Nat, k ≤ es.length ∧ i = .int .i64 k ∧ OwnD W base g (lastA 0 (es.take k)) (packL 0 (es.take k)) v wr) (fun _ i _ => es.length - (intOf i).toNat)
    case atStart => exact ⟨0, Nat.zero_le _, rfl, hO⟩
    case round =>
      obtain ⟨k, hk, rfl, ho⟩ := hrel
      by_cases hlt : k < es.length
      · have hE : evF es[k] = 0 := HA.out _ (List.getElem_mem hlt)
        have hL := lastA_in 0 (es.take k) (fun e he => HA.out e (List.mem_of_mem_take he)) (by omega)
        have hB := evB_in hE hL
        have hev := evF_zero hE
        have hZ := zigI_in (n := es[k].a - lastA 0 (es.take k)) (by omega)
        have hpl := packL_len (es.take k) 0 (evsF_of _ (fun e he => HA.out e (List.mem_of_mem_take he))) (by omega)
        have hpk : (packL 0 (es.take k)).length ≤ 144 := by rw [List.length_take] at hpl; omega
        clear hpl
        have HP := hide (show packL 0 (es.take (k + 1)) = packL 0 (es.take k) ++ (putL (2 * zigI (es[k].a - lastA 0 (es.take k)) + es[k].k) ++ putL es[k].v) by rw [take_snoc es k hlt, packL_snoc]; rfl)
        have HQ := hide (show lastA 0 (es.take (k + 1)) = es[k].a by rw [take_snoc es k hlt, lastA_snoc])
        obtain ⟨b, off, rfl, hbb, hc0, hc1, hc2⟩ := (hR.below ho.old).get hlt
        obtain ⟨L, hLe⟩ : ∃ L, L = lastA 0 (es.take k) := ⟨_, rfl⟩
        obtain ⟨xs, hxs⟩ : ∃ xs, xs = packL 0 (es.take k) := ⟨_, rfl⟩
        obtain ⟨K, hK⟩ : ∃ K, K = es[k].k := ⟨_, rfl⟩
        obtain ⟨a, ha⟩ : ∃ a, a = es[k].a := ⟨_, rfl⟩
        obtain ⟨v', hv⟩ : ∃ v, v = es[k].v := ⟨_, rfl⟩
        rw [← hLe] at hL hB hZ HP ho
        rw [← hxs] at ho hpk HP
        rw [← hK] at hB hc0 HP hev
        rw [← ha] at hB hZ hc1 HP HQ hev
        rw [← hv] at hB hc2 HP hev
        obtain ⟨Z, hZe⟩ : ∃ Z, Z = zigI (a - L) := ⟨_, rfl⟩
        have ZC := hide (fun W => implZig_any (a - L) W (by omega))
        rw [(zig_in (n := a - L) (by omega)).1, (zig_in (n := a - L) (by omega)).2, ← hZe] at ZC
        rw [← hZe] at hB hZ HP
        obtain ⟨p1, hp1⟩ : ∃ p, p = putL (2 * Z + K) := ⟨_, rfl⟩
        obtain ⟨p2, hp2⟩ : ∃ p, p = putL v' := ⟨_, rfl⟩
        have PC1 := hide (fun W => implPut_any (2 * Z + K) W (by omega))
        have PC2 := hide (fun W => implPut_any v' W (by omega))
        have l1 := putL_len hB.1 (by omega)
        have l2 := putL_len hB.2.2.1 (by omega)
        rw [(put_pos hB.1).1, (put_pos hB.1).2, ← hp1] at PC1
        rw [(put_pos hB.2.2.1).1, (put_pos hB.2.2.1).2, ← hp2] at PC2
        rw [← hp1] at l1 HP
        rw [← hp2] at l2 HP
        have DC := hide (fun W => delta_any a L g W (by omega) (by omega))
        clear hLe hxs hK ha hv hZe hp1 hp2 hE
        obtain ⟨hB1, hB2, hB3, hB4⟩ := hB
        obtain ⟨hZ1, hZ2⟩ := hZ
        obtain ⟨hL1, hL2⟩ := hL
        have hK2 : 0 ≤ K ∧ K ≤ 1 := by omega
        obtain ⟨_, ha1, ha2, hv1, hv2⟩ := hev
        go_wp2_with fail
        obtain ⟨q, hq⟩ : ∃ q, q = wr.heap.size := ⟨_, rfl⟩
        have hoX := ho.alloc (.cells #[.int .i64 K, .int .i64 a, .int .i64 v'] 83)
        have hqX := Bk.new wr #[.int .i64 K, .int .i64 a, .int .i64 v'] 83
        rw [← hq] at hqX
        rw [← hq]
        have hgq : g < q := by have := ho.var.lt; omega
        generalize hX : wr.alloc (.cells #[.int .i64 K, .int .i64 a, .int .i64 v'] 83) = X at hoX hqX
        have hne : some q ≠ u5.ownBlock := own_apart ho.row q (.inr (by omega))
        clear hX hc0 hc1 hc2 ho hq
        have s0 : IntKind.i64.wrap (2 * Z) = 2 * Z := IntWalk.i64_in _ (by omega)
        have s1 : IntKind.i64.wrap (2 * Z + K) = 2 * Z + K := IntWalk.i64_in _ (by omega)
        have hfl := field_value
        go_cut [8] (fun s8 wx => s8 = .int .i64 (2 * Z + K) ∧ OwnD W base g a xs u5 wx ∧ Bk wx q #[.int .i64 K, .int .i64 a, .int .i64 v'] 83)
        case first =>
          have c0 : X.cell? ⟨q, 0, none⟩ = some (.int .i64 K) := by rw [hqX.cell 0]; rfl
          have c1 : X.cell? ⟨q, 1, none⟩ = some (.int .i64 a) := by rw [hqX.cell 1]; rfl
          go_region_held3 (fun w' => w'.cell? ⟨q, 0, none⟩ = some (.int .i64 K) ∧ w'.cell? ⟨q, 1, none⟩ = some (.int .i64 a))
            (first | assumption | exact ⟨c0, c1⟩ | exact ⟨(hq2.cell 0).trans rfl, (hq2.cell 1).trans rfl⟩ | exact ⟨(hq1.cell 0).trans rfl, (hq1.cell 1).trans rfl⟩)
            (first
              | (go_at_call 101; refine (DC.out _ hoX.drew.var).mono ?_; rintro e wa ⟨rfl, rfl⟩; have hoA := (hoX.turn a).drew; have hq1 : Bk (X.setCell ⟨g, 0, none⟩ (.int .i64 a)).drew q #[.int .i64 K, .int .i64 a, .int .i64 v'] 83 := hqX.far (p := ⟨g, 0, none⟩) (by simp only; omega) (.int .i64 a))
              | (go_at_call 92; refine (ZC.out _).mono ?_; rintro e wb ⟨rfl, bb⟩; have hoB := hoA.below bb; have hq2 := hq1.kept bb))
          go_wp2_with fail
          go_meet
          exact ⟨rfl, hoB, hq2⟩
        case rest =>
          obtain ⟨rfl, ho2, hq2⟩ := hcut
          clear s0 s1 hoX hqX DC ZC hfl
          have hfl := field_bytes
          go_wp2_with fail
          refine (PC1.out _).mono ?_
          rintro e wa ⟨A1, c1, rfl, oa, ba⟩
          have hA := ho2.below ba
          have hqa := hq2.kept ba
          clear ba ho2 hq2
          go_wp2_with (at_builtin; refine wpList_append_rd _ rfl (.tmp 32) (.tmp 35) 22 rfl base 5 i0 (.int .u8 0) 1 Tryz.underlying22 hi hz0 hz1 hz2 rfl .u8 u5 _ _ rfl hA.row A1 p1 c1 _ rfl (Rd.of_own oa) (by unfold maxLen; omega) (by omega) hA.top ?_; intro v1 wb o1 g1 hat1; have hO1 := hA.more o1 g1; have hqb := hqa.grown g1 hne; have c2 : wb.cell? ⟨q, 2, none⟩ = some (.int .i64 v') := (hqb.cell 2).trans rfl; clear g1 hat1 o1 hA hqa oa hqb)
          refine (PC2.out _).mono ?_
          rintro e wc ⟨A2, c2', rfl, oc, bc⟩
          have hC := hO1.below bc
          have xp : (xs ++ p1).length ≤ 153 := by rw [List.length_append]; omega
          clear bc hO1 c2
          go_wp2_with (at_builtin; refine wpList_append_rd _ rfl (.tmp 37) (.tmp 41) 22 rfl base 5 i0 (.int .u8 0) 1 Tryz.underlying22 hi hz0 hz1 hz2 rfl .u8 v1 _ _ rfl hC.row A2 p2 c2' _ rfl (Rd.of_own oc) (by unfold maxLen; omega) (by omega) hC.top ?_; intro v2 wd o2 g2 hat2; have hO2 := hC.more o2 g2; clear g2 hat2 o2 hC oc)
          go_roundw
          case rel => exact ⟨k + 1, by omega, by go_num, by rw [HP.out, HQ.out, ← List.append_assoc]; exact hO2⟩
          case measure => simp [intOf]; omega
      · obtain rfl : k = es.length := by omega
        rw [List.take_length] at ho
        obtain ⟨A', c', rfl⟩ := own_shape ho.row
        have hb := ho.old
        have q0 := W_cell HW.out hb 0
        have q1 := W_cell HW.out hb 1
        have f0 := W_frozen HW.out hb 0
        have f1 := W_frozen HW.out hb 1
        simp at q0 q1
        have o3 := own_mono ho.row (Nat.le_of_lt (Nat.lt_of_le_of_lt ho.lo ho.hi))
        clear ho
        go_wp2
        refine bodyPost_ret (v := .agg #[.int .i64 0, .slice A' (packL 0 es).length c']) (by simp [results, Tryz.results74, go_sem, q0, q1]) rfl ?_
        exact ⟨A', c', rfl, W_own HW.out (W_set HW.out (W_set HW.out o3 _ _) _ _), ((W_below HW.out hb).setCell (Nat.le_refl _) _).setCell (Nat.le_refl _) _⟩
  · obtain ⟨F, hF⟩ : ∃ F, F = stF es := ⟨_, rfl⟩
    rw [show pkC es = F from hF.symm, pk_bad hs]
    rw [← hF] at SF hs
    have g0 : (F != 0) = true := bne_iff_ne.2 hs
    have g1 : (F == 0) = false := beq_eq_false_iff_ne.2 hs
    clear hs hF
    go_enter Tryz.func74, Tryz.ntmps74
    go_wp2_with fail
    rw [← HW.out]
    refine SF.out.mono ?_
    rintro e w1 ⟨rfl, hb⟩
    have q0 := W_cell HW.out hb 0
    have q1 := W_cell HW.out hb 1
    have f0 := W_frozen HW.out hb 0
    have f1 := W_frozen HW.out hb 1
    simp at q0 q1
    go_wp2
    refine bodyPost_ret (v := .agg #[.int .i64 F, .slice none 0 0]) (by simp [results, Tryz.results74, go_sem, q0, q1]) rfl ?_
    exact ⟨none, 0, rfl, World.ownsRow_nil _ _ _ _, ((W_below HW.out hb).setCell (Nat.le_refl _) _).setCell (Nat.le_refl _) _⟩
end Go.Proofs.YtldepledinolmaaGreatDoor
