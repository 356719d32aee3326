/- What the laws' walks rest upon, part 8. -/
import Derived.Test.YtnnfkmjhaljplaaGreatDoorM02
import Derived.Test.YtnnfkmjhaljplaaGreatDoorM07
import Derived.Test.YtnnfkmjhaljplaaGreatDoorM04
import Derived.IntWalk
namespace Go.Proofs.YtnnfkmjhaljplaaGreatDoor
open Go.RowKit
theorem l1Zag_any (n : Int) (w : World) (h : 0 ≤ n ∧ n ≤ 2000000000000) :
    Calls Tryz.prog 293 #[.int .i64 n] w fun e w' => e = .returned (.int .i64 (zagI n)) ∧ w = w' := by
  obtain ⟨h1, h2⟩ := h
  by_cases h0 : n % 2 = 0
  · rw [zagI_even h0]
    have h0' : (n % 2 == 0) = true := by simpa using h0
    clear h0
    go_enter Tryz.func293, Tryz.ntmps293
    go_wp2
    go_ret
    exact ⟨rfl, rfl⟩
  · rw [zagI_odd h0]
    have h0' : (n % 2 == 0) = false := by simpa using h0
    clear h0
    go_enter Tryz.func293, Tryz.ntmps293
    go_wp2
    go_ret
    exact ⟨ret_int (zag_wrap (by omega) (by omega)), rfl⟩
/-- The address of what is left behind a cut. -/
def cutA (A : Option Addr) (k c : Nat) : Option Addr := if c = k then A else A.map (·.add k)
theorem Rd.cut {k : IntKind} {w : World} {B : Nat} {A : Option Addr} {l : List Int} (h : Rd k w B A l) {n c : Nat} (hn : n ≤ l.length) (hc : l.length ≤ c) : Rd k w B (cutA A n c) (l.drop n) := by
  intro h0
  have h1 : n < l.length := by simp at h0; omega
  obtain ⟨b, off, rfl, hb, hx⟩ := h.all (by omega)
  unfold cutA
  rw [if_neg (by omega)]
  refine ⟨b, off + n, by simp [Go.WideShapes.add_plain], hb, fun i hi => ?_⟩
  have hi' : n + i < l.length := by simp at hi; omega
  have := hx (n + i) hi'
  rw [Nat.add_assoc, this]
  simp
theorem run_cut (A : Option Addr) (n k c : Nat) (l : Int) (w : World) (hl : l = k) (h : k ≤ n) : (Instr.slice 22 (.slice A n c) (some (.int .i64 l)) none none).run Tryz.prog w = .ok (.slice (cutA A k c) (n - k) (c - k)) w := by
  subst hl
  simp [go_sem, h, cutA]
theorem cell_three_new (w : World) (x y z : Value) (T : TypeId) : ∀ j u, [x, y, z][j]? = some u → (w.alloc (.cells #[x, y, z] T)).cell? ((⟨w.heap.size, 0, none⟩ : Addr).add j) = some u := by
  intro j u hj
  rw [Go.WideShapes.add_plain, Nat.zero_add, (Bk.new w #[x, y, z] T).cell j]
  simpa using hj
theorem one_cells3 (k : IntKind) (x y z : Int) : ∀ u ∈ [Value.int k x, .int k y, .int k z], u.oneCell' = true := by
  intro u hu
  simp at hu
  rcases hu with rfl | rfl | rfl <;> rfl
def sliceLen : Value → Nat
  | .slice _ n _ => n
  | _ => 0
/-- At the head of the loop's rounds. -/
def UnRel (d0 : List Int) (w : World) (v0 v4 v5 : Value) (wr : World) : Prop :=
  ∃ (d : List Int) (A : Option Addr) (c : Nat) (acc : List Ev) (p : Int), v0 = .slice A d.length c ∧ d.length ≤ c ∧ Rd .u8 w w.heap.size A d ∧ B8 d ∧ d.length ≤ 1048576 ∧ v5 = .int .i64 p ∧ (0 ≤ p ∧ p ≤ 999999) ∧ acc.length ≤ 8 ∧ UnAt d0 acc d p ∧
    wr.ownsRow w.heap.size 48 3 v4 acc.length (evs acc) ∧ Below w.heap.size w wr
/-- What a reading tells. -/
def UnPost (d : List Int) (w : World) (e : Ending) (w' : World) : Prop :=
  (unpN 8 d 0 = none ∧ e = .returned (.tuple #[.slice none 0 0, .bool false]) ∧ Below w.heap.size w w') ∨
  ∃ es A c, unpN 8 d 0 = some es ∧ e = .returned (.tuple #[.slice A es.length c, .bool true]) ∧ w'.ownsRow w.heap.size 48 3 (.slice A es.length c) es.length (evs es) ∧ Below w.heap.size w w'
set_option maxRecDepth 100000 in
set_option maxHeartbeats 2000000 in
theorem l2Unpack_any (d0 : List Int) (A : Option Addr) (c : Nat) (w : World) (hm : d0.length ≤ 1048576) (hc : d0.length ≤ c) (h : Rd .u8 w w.heap.size A d0) (b8 : B8 d0) :
    Calls Tryz.prog 261 #[.slice A d0.length c] w (UnPost d0 w) := by
  obtain ⟨i0, hi, hz0, hz1, hz2⟩ := info_parts info_event
  go_enter Tryz.func261, Tryz.ntmps261
  go_wp2
  go_loopw [0, 4, 5] (fun v0 v4 v5 wr => UnRel d0 w v0 v4 v5 wr) (fun v0 _ _ _ => sliceLen v0)
  case atStart => exact ⟨d0, A, c, [], 0, rfl, hc, h, b8, hm, rfl, by omega, by simp, UnAt.start d0, World.ownsRow_lit w #[] 0 (Nat.le_refl _) (by simp) rfl, (Below.refl _ _).alloc (Nat.le_refl _) _⟩
  case round =>
    obtain ⟨d, A, c, acc, p, rfl, hc, h, b8, hm, rfl, hp, h8, HU, ho, hb⟩ := hrel
    have HU := hide HU
    obtain ⟨A4, c4, rfl⟩ := own_shape ho
    by_cases h0 : 0 < d.length
    · have hne : d ≠ [] := by intro e; rw [e] at h0; simp at h0
      have HN := hide hne
      clear hne
      have RC := hide (fun W hW => l1Read_any d A c W hm hc hW b8)
      rcases rd_code d with ⟨hcode, _⟩ | ⟨hcode, hV, hZ⟩
      · have rb := rd_back b8 hcode
        by_cases hfar : 4000000000000 < rdV d
        · have HR := hide (HU.out.bad HN.out (evGood_far hp hfar))
          obtain ⟨V, hV⟩ : ∃ V, V = rdV d := ⟨_, rfl⟩
          obtain ⟨Z, hZ⟩ : ∃ Z : Nat, rdZ d = Z := ⟨(rdZ d).toNat, by omega⟩
          rw [← hV, hZ] at RC rb
          rw [← hV] at hfar
          have z0 : ((Z : Int) == 0) = false := beq_eq_false_iff_ne.2 (by omega)
          clear hV hZ hcode
          go_wp2_with fail
          refine (RC.out _ (h.below hb).lt).mono ?_
          rintro e w2 ⟨rfl, b2⟩
          have hb2 := hb.trans (b2.mono hb.size)
          go_wp2
          go_ret2
          exact .inl ⟨HR.out, rfl, hb2⟩
        · obtain ⟨V, hV⟩ : ∃ V, V = rdV d := ⟨_, rfl⟩
          obtain ⟨Z, hZ⟩ : ∃ Z : Nat, rdZ d = Z := ⟨(rdZ d).toNat, by omega⟩
          have hn : nextV d = d.drop Z := by unfold nextV; rw [hZ, Int.toNat_natCast]
          rw [← hV] at hfar
          rw [← hV, hZ] at RC rb
          have z0 : ((Z : Int) == 0) = false := beq_eq_false_iff_ne.2 (by omega)
          have hZ1 : 1 ≤ Z := by omega
          have hZ2 : Z ≤ d.length := by omega
          have hV0 : 0 ≤ V := rb.2.2.1
          have CUT := hide (fun W => run_cut A d.length Z c (Z : Int) W rfl hZ2)
          have RC2 := hide (fun W hW => l1Read_any (d.drop Z) (cutA A Z c) (c - Z) W (by rw [List.length_drop]; omega) (by rw [List.length_drop]; omega) hW (b8.drop Z))
          have hlz := List.length_drop (l := d) (i := Z)
          rw [hlz] at RC2
          have hcR := h.cut hZ2 hc
          rcases rd_code (d.drop Z) with ⟨hcode2, _⟩ | ⟨hcode2, hV2, hZ2'⟩
          · have rb2 := rd_back (b8.drop Z) hcode2
            obtain ⟨U, hU⟩ : ∃ U, U = rdV (d.drop Z) := ⟨_, rfl⟩
            obtain ⟨M, hM⟩ : ∃ M : Nat, rdZ (d.drop Z) = M := ⟨(rdZ (d.drop Z)).toNat, by omega⟩
            rw [← hU, hM] at RC2 rb2
            rw [hlz] at rb2
            have hM1 : 1 ≤ M := by omega
            have hM2 : Z + M ≤ d.length := by omega
            have m0 : ((M : Int) == 0) = false := beq_eq_false_iff_ne.2 (by omega)
            have CUT2 := hide (fun W => run_cut A d.length (Z + M) c ((Z : Int) + (M : Int)) W (by omega) hM2)
            have ZC := hide (fun W => l1Zag_any (V / 2) W (by omega))
            have hzi := zagI_in (n := V / 2) (by omega)
            have hat : evAt d p = ⟨V % 2, p + zagI (V / 2), U⟩ := by unfold evAt; rw [hn, ← hV, ← hU]
            have hev : evZ d = Z + M := by unfold evZ; rw [hn, hZ, hM]; omega
            have EF := hide (fun W => specEvF_any (V % 2) (p + zagI (V / 2)) U W)
            rw [← hat] at EF
            obtain ⟨D, hD⟩ : ∃ D, D = zagI (V / 2) := ⟨_, rfl⟩
            rw [← hD] at ZC hzi EF hat
            have hm0 : 0 ≤ V % 2 ∧ V % 2 < 2 := by omega
            have rU := rb2.2.2.1
            by_cases hf : evF (evAt d p) = 0
            · have hg : evGood d p := evGood_of hcode (by rw [hn]; exact hcode2) (by rw [← hV]; omega) hf
              rw [hf] at EF
              have hrg := evF_zero hf
              rw [hat] at hrg
              simp only at hrg
              by_cases hfull : acc.length < 8
              · have HS := HU.out.step HN.out hg hfull
                rw [hev, hat] at HS
                have HS := hide HS
                have HL := hide (List.length_drop (l := d) (i := Z + M))
                have HC := hide (h.cut hM2 hc)
                clear hV hZ hn hcode hcode2 hU hM hat hev hD hf hg hlz rb rb2
                obtain ⟨_, hr1, hr2, hr3, hr4⟩ := hrg
                go_wp2_with fail
                refine (RC.out _ (h.below hb).lt).mono ?_
                rintro e w2 ⟨rfl, b2⟩
                have hb2 := hb.trans (b2.mono hb.size)
                have ho2 := own_below ho b2 (Nat.le_refl _)
                clear ho b2
                have cut := CUT.out w2
                go_wp2_with fail
                refine (RC2.out _ (hcR.below hb2).lt).mono ?_
                rintro e w3 ⟨rfl, b3⟩
                have hb3 := hb2.trans (b3.mono hb2.size)
                have ho3 := own_below ho2 b3 (Nat.le_refl _)
                clear cut ho2 b3 hb2
                have cut2 := CUT2.out w3
                go_wp2_with fail
                refine (ZC.out _).mono ?_
                rintro e w' ⟨rfl, rfl⟩
                clear cut2
                go_wp2_with fail
                refine (EF.out _).mono ?_
                rintro e w5 ⟨rfl, b5⟩
                have k5 := (Bk.new w3 #[.int .i64 (V % 2), .int .i64 (p + D), .int .i64 U] 48).kept b5
                have b5' := below_alloc b5
                have hb5 := hb3.trans (b5'.mono hb3.size)
                have ho5 := own_below ho3 b5' (Nat.le_refl _)
                have e0 : w5.cell? ⟨w3.heap.size, 0, none⟩ = some (.int .i64 (V % 2)) := (k5.cell 0).trans rfl
                have e1 : w5.cell? ⟨w3.heap.size, 1, none⟩ = some (.int .i64 (p + D)) := (k5.cell 1).trans rfl
                have e2 : w5.cell? ⟨w3.heap.size, 2, none⟩ = some (.int .i64 U) := (k5.cell 2).trans rfl
                clear ho3 b5 b5' hb3 k5
                go_wp2_with (at_builtin; refine wpList_append_own_at _ rfl _ _ 45 rfl w.heap.size 48 i0 (.agg #[.int .i64 0, .int .i64 0, .int .i64 0]) 3 24 Tryz.underlying45 hi hz0 hz1 hz2 rfl (by decide) _ _ _ rfl (ho5.alloc _) ⟨w5.heap.size, 0, none⟩ 1 1 [.int .i64 (V % 2), .int .i64 (p + D), .int .i64 U] rfl rfl (cell_three_new _ _ _ _ _) (one_cells3 _ _ _ _) (by unfold maxLen; omega) (by omega) (by simp; have := hb5.size; omega) ?_; intro v' w7 hown' hgrow _ hat)
                have hb7 : Below w.heap.size w w7 := (hb5.alloc hb5.size _).grown hgrow (by simp; have := hb5.size; omega) (fun k hk => (ho5.lt k hk).1)
                clear hgrow hat
                go_roundw
                case rel => exact ⟨d.drop (Z + M), cutA A (Z + M) c, c - (Z + M), acc ++ [⟨V % 2, p + D, U⟩], p + D, by rw [HL.out], by rw [HL.out]; omega, HC.out, b8.drop _, by rw [HL.out]; omega, rfl, ⟨hr1, hr2⟩, by rw [List.length_append]; simp; omega, HS.out, by rw [List.length_append, evs_append]; exact hown', hb7⟩
                case measure => simp [sliceLen]; omega
              · have HR := hide (HU.out.full HN.out hfull)
                clear hV hZ hn hcode hcode2 hU hM hat hev hD hf hg hlz rb rb2
                obtain ⟨_, hr1, hr2, hr3, hr4⟩ := hrg
                go_wp2_with fail
                refine (RC.out _ (h.below hb).lt).mono ?_
                rintro e w2 ⟨rfl, b2⟩
                have hb2 := hb.trans (b2.mono hb.size)
                have ho2 := own_below ho b2 (Nat.le_refl _)
                clear ho b2
                have cut := CUT.out w2
                go_wp2_with fail
                refine (RC2.out _ (hcR.below hb2).lt).mono ?_
                rintro e w3 ⟨rfl, b3⟩
                have hb3 := hb2.trans (b3.mono hb2.size)
                have ho3 := own_below ho2 b3 (Nat.le_refl _)
                clear cut ho2 b3 hb2
                have cut2 := CUT2.out w3
                go_wp2_with fail
                refine (ZC.out _).mono ?_
                rintro e w' ⟨rfl, rfl⟩
                clear cut2
                go_wp2_with fail
                refine (EF.out _).mono ?_
                rintro e w5 ⟨rfl, b5⟩
                have k5 := (Bk.new w3 #[.int .i64 (V % 2), .int .i64 (p + D), .int .i64 U] 48).kept b5
                have b5' := below_alloc b5
                have hb5 := hb3.trans (b5'.mono hb3.size)
                have ho5 := own_below ho3 b5' (Nat.le_refl _)
                have e0 : w5.cell? ⟨w3.heap.size, 0, none⟩ = some (.int .i64 (V % 2)) := (k5.cell 0).trans rfl
                have e1 : w5.cell? ⟨w3.heap.size, 1, none⟩ = some (.int .i64 (p + D)) := (k5.cell 1).trans rfl
                have e2 : w5.cell? ⟨w3.heap.size, 2, none⟩ = some (.int .i64 U) := (k5.cell 2).trans rfl
                clear ho3 b5 b5' hb3 k5
                go_wp2
                go_ret2
                exact .inl ⟨HR.out, rfl, hb5⟩
            · have HR := hide (HU.out.bad (p := p) HN.out (fun hg => hf hg.2.2.2))
              obtain ⟨F, hF⟩ : ∃ F, F = evF (evAt d p) := ⟨_, rfl⟩
              rw [← hF] at hf EF
              have f0 : (F != 0) = true := bne_iff_ne.2 hf
              have f1 : (F == 0) = false := beq_eq_false_iff_ne.2 hf
              clear hV hZ hn hcode hcode2 hU hM hat hev hD hf hlz rb rb2 hF
              go_wp2_with fail
              refine (RC.out _ (h.below hb).lt).mono ?_
              rintro e w2 ⟨rfl, b2⟩
              have hb2 := hb.trans (b2.mono hb.size)
              have ho2 := own_below ho b2 (Nat.le_refl _)
              clear ho b2
              have cut := CUT.out w2
              go_wp2_with fail
              refine (RC2.out _ (hcR.below hb2).lt).mono ?_
              rintro e w3 ⟨rfl, b3⟩
              have hb3 := hb2.trans (b3.mono hb2.size)
              have ho3 := own_below ho2 b3 (Nat.le_refl _)
              clear cut ho2 b3 hb2
              have cut2 := CUT2.out w3
              go_wp2_with fail
              refine (ZC.out _).mono ?_
              rintro e w' ⟨rfl, rfl⟩
              clear cut2
              go_wp2_with fail
              refine (EF.out _).mono ?_
              rintro e w5 ⟨rfl, b5⟩
              have k5 := (Bk.new w3 #[.int .i64 (V % 2), .int .i64 (p + D), .int .i64 U] 48).kept b5
              have b5' := below_alloc b5
              have hb5 := hb3.trans (b5'.mono hb3.size)
              have ho5 := own_below ho3 b5' (Nat.le_refl _)
              have e0 : w5.cell? ⟨w3.heap.size, 0, none⟩ = some (.int .i64 (V % 2)) := (k5.cell 0).trans rfl
              have e1 : w5.cell? ⟨w3.heap.size, 1, none⟩ = some (.int .i64 (p + D)) := (k5.cell 1).trans rfl
              have e2 : w5.cell? ⟨w3.heap.size, 2, none⟩ = some (.int .i64 U) := (k5.cell 2).trans rfl
              clear ho3 b5 b5' hb3 k5
              go_wp2
              go_ret2
              exact .inl ⟨HR.out, rfl, hb5⟩
          · have HR := hide (HU.out.bad (p := p) HN.out (fun hg => by have := hg.2.1; rw [hn] at this; omega))
            rw [hV2, hZ2'] at RC2
            clear hV hZ hn hcode hcode2 hV2 hZ2' hlz rb
            go_wp2_with fail
            refine (RC.out _ (h.below hb).lt).mono ?_
            rintro e w2 ⟨rfl, b2⟩
            have hb2 := hb.trans (b2.mono hb.size)
            have cut := CUT.out w2
            go_wp2_with fail
            refine (RC2.out _ (hcR.below hb2).lt).mono ?_
            rintro e w3 ⟨rfl, b3⟩
            have hb3 := hb2.trans (b3.mono hb2.size)
            clear cut
            go_wp2
            go_ret2
            exact .inl ⟨HR.out, rfl, hb3⟩
      · have HR := hide (HU.out.bad (p := p) HN.out (fun hg => by have := hg.1; omega))
        rw [hV, hZ] at RC
        clear hcode hV hZ
        go_wp2_with fail
        refine (RC.out _ (h.below hb).lt).mono ?_
        rintro e w2 ⟨rfl, b2⟩
        have hb2 := hb.trans (b2.mono hb.size)
        go_wp2
        go_ret2
        exact .inl ⟨HR.out, rfl, hb2⟩
    · have hd : d = [] := List.eq_nil_of_length_eq_zero (by omega)
      subst hd
      have HR := hide HU.out.done
      go_wp2
      go_ret2
      exact .inr ⟨acc, A4, c4, HR.out, rfl, ho, hb⟩
end Go.Proofs.YtnnfkmjhaljplaaGreatDoor
