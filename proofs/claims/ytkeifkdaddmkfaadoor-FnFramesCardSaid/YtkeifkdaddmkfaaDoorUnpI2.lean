/- The program's UnpackSteps. -/
import Derived.Test.YtkeifkdaddmkfaaDoorUnpB
namespace Go.Proofs.YtkeifkdaddmkfaaDoor
open Go.RowKit

/-- A row of events of the call's own; the captured variable in block g; and all that was there in W is as it was. -/
structure OwnU (W : World) (base g : Nat) (p : Int) (xs : List Ev) (v : Value) (w : World) : Prop where
  row : w.ownsRow base 81 3 v xs.length (evs xs)
  old : Below W.heap.size W w
  var : Bk w g #[.int .i64 p] 2
  lo : W.heap.size ≤ g
  hi : g < base
  top : base ≤ w.heap.size
section
variable {W w w' : World} {base g : Nat} {p : Int} {xs l : List Ev} {v v' : Value}
theorem OwnU.more (h : OwnU W base g p xs v w) (ho : w'.ownsRow base 81 3 v' (xs.length + l.length) (evs xs ++ evs l)) (hg : w.grownBy w' v.ownBlock) : OwnU W base g p (xs ++ l) v' w' :=
  ⟨by rw [List.length_append, evs_append]; exact ho, h.old.trans (grown_below h.row hg h.old.size (by have := h.lo; have := h.hi; omega)), h.var.grown hg (own_apart h.row _ (.inl h.hi)), h.lo, h.hi, by have := h.top; have := hg.size; omega⟩
theorem OwnU.below (h : OwnU W base g p xs v w) (hb : Below w.heap.size w w') : OwnU W base g p xs v w' :=
  ⟨own_below h.row hb (Nat.le_refl _), h.old.trans (hb.mono h.old.size), h.var.kept hb, h.lo, h.hi, by have := h.top; have := hb.size; omega⟩
theorem OwnU.alloc (h : OwnU W base g p xs v w) (o : Obj) : OwnU W base g p xs v (w.alloc o) := h.below ((Below.refl _ _).alloc (Nat.le_refl _) _)
theorem OwnU.turned (h : OwnU W base g p xs v w) {n : Int} (hg : w.grownBy w' (some g)) (hv : Bk w' g #[.int .i64 n] 2) : OwnU W base g n xs v w' :=
  ⟨h.row.kept hg (.inr fun he => by have := h.row.lt g he; have := h.hi; omega), h.old.grown hg h.old.size (fun k hk => by have := h.lo; simp at hk; omega), hv, h.lo, h.hi, by have := h.top; have := hg.size; omega⟩
end
/-- At the head of the loop's rounds. -/
def UnRelI (d0 : List Int) (W : World) (base g : Nat) (v0 v4 : Value) (wr : World) : Prop :=
  ∃ (d : List Int) (A : Option Addr) (c : Nat) (acc : List Ev) (p : Int), v0 = .slice A d.length c ∧ d.length ≤ c ∧ Rd .u8 W W.heap.size A d ∧ B8 d ∧ d.length ≤ 4000 ∧ (0 ≤ p ∧ p ≤ 999999) ∧ acc.length ≤ 8 ∧ UnAt d0 acc d p ∧ OwnU W base g p acc v4 wr

set_option maxRecDepth 100000 in
set_option maxHeartbeats 2000000 in
theorem implUn_any (d0 : List Int) (A : Option Addr) (c : Nat) (w : World) (hm : d0.length ≤ 1048576) (hc : d0.length ≤ c) (h : Rd .u8 w w.heap.size A d0) (b8 : B8 d0) :
    Calls Tryd.prog 70 #[.slice A d0.length c] w fun e w' => ∃ A c, e = .returned (.agg #[.int .i64 (unC d0), .slice A (unE d0).length c]) ∧ w'.ownsRow w.heap.size 81 3 (.slice A (unE d0).length c) (unE d0).length (evs (unE d0)) ∧ Below w.heap.size w w' := by
  obtain ⟨W, hW⟩ : ∃ W, W = w.alloc (Obj.cells #[Value.int .i64 0, .slice none 0 0] 97) := ⟨_, rfl⟩
  have HW := hide hW
  have hR : Rd .u8 W W.heap.size A d0 := by subst hW; exact (h.alloc (Nat.le_refl _) _).lt
  clear hW
  by_cases hl : d0.length ≤ 4000
  · obtain ⟨i0, hi, hz0, hz1, hz2⟩ := info_parts info_event
    obtain ⟨C, hC⟩ : ∃ C, C = unC d0 := ⟨_, rfl⟩
    obtain ⟨E, hE⟩ : ∃ E, E = unE d0 := ⟨_, rfl⟩
    have NO := hide (fun hu => un_none hl hu)
    have YES := hide (fun es hu => un_some (es := es) hl hu)
    rw [← hC, ← hE] at NO YES
    rw [← hC, ← hE]
    clear hC hE
    go_enter Tryd.func70, Tryd.ntmps70
    go_wp2_with fail
    rw [← HW.out]
    refine (sums_any W).mono ?_
    rintro e w2 ⟨rfl, rfl⟩
    have hO : OwnU W (W.heap.size + 1) W.heap.size 0 [] (.slice none 0 0) (W.alloc (.cells #[.int .i64 0] 2)) := ⟨World.ownsRow_nil _ _ _ _, (Below.refl _ _).alloc (Nat.le_refl _) _, Bk.new _ _ _, Nat.le_refl _, Nat.lt_succ_self _, by simp⟩
    obtain ⟨base, hbase⟩ : ∃ b, b = W.heap.size + 1 := ⟨_, rfl⟩
    obtain ⟨g, hg⟩ : ∃ b, b = W.heap.size := ⟨_, rfl⟩
    rw [← hbase, ← hg] at hO
    rw [← hg]
    generalize hV : W.alloc (.cells #[.int .i64 0] 2) = V at hO
    clear hV hbase hg
    go_wp2
    go_loopw [0, 4] (fun v0 v4 wr => UnRelI d0 W base g v0 v4 wr) (fun v0 _ _ => sliceLen v0)
    case atStart => exact ⟨d0, A, c, [], 0, rfl, hc, hR, b8, hl, by omega, by simp, UnAt.start d0, hO⟩
    case round =>
      obtain ⟨d, A, c, acc, p, rfl, hc, h, b8, hm, hp, h8, HU, ho⟩ := hrel
      have HU := hide HU
      obtain ⟨A4, c4, rfl⟩ := own_shape ho.row
      by_cases h0 : 0 < d.length
      · have hne : d ≠ [] := by intro e; rw [e] at h0; simp at h0
        have HN := hide hne
        clear hne
        by_cases hg : evGood d p
        · have RC := hide (readEvent_good d p g A c wr (by omega) hc (h.below ho.old).lt b8 hp ho.var hg)
          have hz := evZ_le b8 hg
          obtain ⟨Z, hZ⟩ : ∃ Z, Z = evZ d := ⟨_, rfl⟩
          obtain ⟨x, hx⟩ : ∃ x, x = evAt d p := ⟨_, rfl⟩
          have hfz : evF x = 0 := by rw [hx]; exact hg.2.2.2
          have hrg := (evF_zero hfz).2
          rw [← hZ, ← hx] at RC
          have hZ1 : 2 ≤ Z := by omega
          have hZ2 : Z ≤ d.length := by omega
          have z0 : ((Z : Int) == 0) = false := beq_eq_false_iff_ne.2 (by omega)
          by_cases hfull : acc.length < 8
          · have HS := HU.out.step HN.out hg hfull
            rw [← hZ, ← hx] at HS
            have HS := hide HS
            have HL := hide (List.length_drop (l := d) (i := Z))
            have HC := hide (h.cut hZ2 hc)
            have a8 : ((acc.length : Int) == 8) = false := beq_eq_false_iff_ne.2 (by omega)
            have a9 : (acc.length == 8) = false := beq_eq_false_iff_ne.2 (by omega)
            have CUT := hide (fun W => run_cut A d.length Z c (Z : Int) W rfl hZ2)
            clear hz hZ hx hg hfz
            obtain ⟨hr1, hr2, hr3, hr4⟩ := hrg
            go_wp2_with fail
            refine RC.out.mono ?_
            rintro e w2 ⟨rfl, g2, v2⟩
            have ho2 := (ho.turned g2 v2).alloc (.cells #[.int .i64 x.k, .int .i64 x.a, .int .i64 x.v] 81)
            clear g2 v2 ho RC
            have hnews := cell_three_new (w2.alloc (.cells #[.int .i64 x.k, .int .i64 x.a, .int .i64 x.v] 81)) (.int .i64 x.k) (.int .i64 x.a) (.int .i64 x.v) 81
            rw [show (w2.alloc (.cells #[.int .i64 x.k, .int .i64 x.a, .int .i64 x.v] 81)).heap.size = w2.heap.size + 1 by simp] at hnews
            have HW2 := hide hnews
            clear hnews
            go_wp2_with (at_builtin; refine wpList_append_own_at _ rfl _ _ 24 rfl base 81 i0 (.agg #[.int .i64 0, .int .i64 0, .int .i64 0]) 3 24 Tryd.underlying24 hi hz0 hz1 hz2 rfl (by decide) _ _ _ rfl (ho2.row.alloc _) ⟨w2.heap.size + 1, 0, none⟩ 1 1 [.int .i64 x.k, .int .i64 x.a, .int .i64 x.v] rfl rfl HW2.out (one_cells3 _ _ _ _) (by unfold maxLen; omega) (by omega) (by have := ho2.top; simp at this ⊢; omega) ?_; intro v' w7 hown' hgrow _ hat; have hO7 : OwnU W base g x.a (acc ++ [x]) v' w7 := (ho2.alloc _).more (l := [x]) hown' hgrow; clear hgrow hat hown'; have cut := CUT.out w7)
            go_roundw
            case rel => exact ⟨d.drop Z, cutA A Z c, c - Z, acc ++ [x], x.a, by rw [HL.out], by rw [HL.out]; omega, HC.out, b8.drop _, by rw [HL.out]; omega, ⟨hr1, hr2⟩, by rw [List.length_append]; simp; omega, HS.out, hO7⟩
            case measure => simp [sliceLen]; omega
          · have HR := hide (HU.out.full HN.out hfull)
            have a8 : ((acc.length : Int) == 8) = true := beq_iff_eq.2 (by omega)
            have a9 : (acc.length == 8) = true := beq_iff_eq.2 (by omega)
            clear hz hZ hx hg hfz
            go_wp2_with fail
            refine RC.out.mono ?_
            rintro e w2 ⟨rfl, g2, v2⟩
            have hb := ((ho.turned g2 v2).alloc (.cells #[.int .i64 x.k, .int .i64 x.a, .int .i64 x.v] 81)).old
            clear g2 v2 ho RC
            have q0 := W_cell HW.out hb 0
            have q1 := W_cell HW.out hb 1
            have f0 := W_frozen HW.out hb 0
            have f1 := W_frozen HW.out hb 1
            simp only [List.getElem?_toArray] at q0 q1
            have X := hide hb
            clear hb
            go_wp2
            refine bodyPost_ret (v := .agg #[.int .i64 5, .slice none 0 0]) (by simp [results, Tryd.results70, go_sem, q0, q1]) rfl ?_
            rw [(NO.out HR.out).1, (NO.out HR.out).2]
            exact ⟨none, 0, rfl, World.ownsRow_nil _ _ _ _, ((W_below HW.out X.out).setCell (Nat.le_refl _) _).setCell (Nat.le_refl _) _⟩
        · have HR := hide (HU.out.bad HN.out hg)
          have RC := hide (readEvent_bad d p g A c wr (by omega) hc (h.below ho.old).lt b8 hp ho.var hg)
          clear hg
          go_wp2_with fail
          refine RC.out.mono ?_
          rintro e w2 ⟨rfl, g2⟩
          have hb : Below W.heap.size W (w2.alloc (.cells #[.int .i64 0, .int .i64 0, .int .i64 0] 81)) := (ho.old.grown g2 ho.old.size (fun k hk => by have := ho.lo; simp at hk; omega)).alloc (by have := ho.old.size; have := g2.size; omega) _
          have q0 := W_cell HW.out hb 0
          have q1 := W_cell HW.out hb 1
          have f0 := W_frozen HW.out hb 0
          have f1 := W_frozen HW.out hb 1
          simp only [List.getElem?_toArray] at q0 q1
          have X := hide hb
          clear hb g2 RC
          go_wp2
          refine bodyPost_ret (v := .agg #[.int .i64 5, .slice none 0 0]) (by simp [results, Tryd.results70, go_sem, q0, q1]) rfl ?_
          rw [(NO.out HR.out).1, (NO.out HR.out).2]
          exact ⟨none, 0, rfl, World.ownsRow_nil _ _ _ _, ((W_below HW.out X.out).setCell (Nat.le_refl _) _).setCell (Nat.le_refl _) _⟩
      · have hd : d = [] := List.eq_nil_of_length_eq_zero (by omega)
        subst hd
        have HR := hide HU.out.done
        have hb := ho.old
        have q0 := W_cell HW.out hb 0
        have q1 := W_cell HW.out hb 1
        have f0 := W_frozen HW.out hb 0
        have f1 := W_frozen HW.out hb 1
        simp at q0 q1
        have o3 := own_mono ho.row (Nat.le_of_lt (Nat.lt_of_le_of_lt ho.lo ho.hi))
        clear ho
        go_wp2
        refine bodyPost_ret (v := .agg #[.int .i64 0, .slice A4 acc.length c4]) (by simp [results, Tryd.results70, go_sem, q0, q1]) rfl ?_
        rw [(YES.out _ HR.out).1, (YES.out _ HR.out).2]
        exact ⟨A4, c4, rfl, W_own HW.out (W_set HW.out (W_set HW.out o3 _ _) _ _), ((W_below HW.out hb).setCell (Nat.le_refl _) _).setCell (Nat.le_refl _) _⟩
  · rw [(un_long hl).1, (un_long hl).2]
    go_enter Tryd.func70, Tryd.ntmps70
    go_wp2
    go_returns
    exact ⟨none, 0, rfl, World.ownsRow_nil _ _ _ _, by go_grown⟩
end Go.Proofs.YtkeifkdaddmkfaaDoor
