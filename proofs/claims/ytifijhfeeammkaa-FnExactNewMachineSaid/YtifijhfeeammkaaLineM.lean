/- Contracts of the exact laws' own helpers on slices of slices of lines: copied into memory of the call's own, marked, held. -/
import Derived.Test.YtifijhfeeammkaaLineT
import Derived.Test.YtifijhfeeammkaaOwnTLine
import Derived.Test.YtifijhfeeammkaaGTrM
import Derived.Test.YtifijhfeeammkaaGMarks
import Derived.Test.YtifijhfeeammkaaOnly
import Derived.StillTailTactics
import Derived.Lib.Hide
namespace Go.Proofs.Ytifijhfeeammkaa
open Go.RowKit

set_option maxRecDepth 100000 in
set_option maxHeartbeats 800000 in
theorem markLineS_any (base : Nat) (A : Option Addr) (n c k : Nat) (xs : List Value) (w : World) (hk : k + n * 3 ≤ 1073741824) (h : w.ownsRow base 115 3 (.slice A n c) n xs) :
    Calls Try.prog 138 #[.slice A n c, .int .i64 k] w fun e w' => e = .returned (.int .i64 ((k + n * 3 : Nat) : Int)) ∧ w'.ownsRow base 115 3 (.slice A n c) n (evs (mkE k n)) ∧ w.grownBy w' (Value.slice A n c).ownBlock := by
  have hl : xs.length = n * 3 := h.1
  go_enter Try.func138, Try.ntmps138
  go_wp2
  go_loopw [1, 5] (fun q i wr => ∃ j : Nat, j ≤ n ∧ i = .int .i64 j ∧ q = .int .i64 ((k + j * 3 : Nat) : Int) ∧ wr.ownsRow base 115 3 (.slice A n c) n (markedE xs k j) ∧ w.grownBy wr (Value.slice A n c).ownBlock) (fun _ i _ => n - (intOf i).toNat)
  case atStart => exact ⟨0, Nat.zero_le _, rfl, rfl, by rw [markedE_zero]; exact h, ⟨rfl, rfl, rfl, Nat.le_refl _, fun _ _ _ => rfl⟩⟩
  case round =>
    obtain ⟨j, hj, rfl, rfl, ho, hg⟩ := hrel
    by_cases hlt : j < n
    · obtain ⟨g, rfl⟩ : ∃ g, A = some ⟨g, 0, none⟩ := by
        rcases ho.2 with ⟨h', h''⟩ | ⟨g, cap, cur, h', _⟩
        · omega
        · simp only [Value.slice.injEq, true_and] at h'
          exact ⟨g, h'.1⟩
      have hlen := ho.1
      have hf0 := ho.frozenAt (j * 3)
      have hf1 := ho.frozenAt (j * 3 + 1)
      have hf2 := ho.frozenAt (j * 3 + 2)
      obtain ⟨v0, hx0⟩ : ∃ v, wr.cell? ⟨g, j * 3, none⟩ = some v := by
        rw [ho.cellAt (j * 3) (by omega)]
        exact ⟨_, List.getElem?_eq_getElem (by omega)⟩
      obtain ⟨v1, hx1⟩ : ∃ v, wr.cell? ⟨g, j * 3 + 1, none⟩ = some v := by
        rw [ho.cellAt (j * 3 + 1) (by omega)]
        exact ⟨_, List.getElem?_eq_getElem (by omega)⟩
      obtain ⟨v2, hx2⟩ : ∃ v, wr.cell? ⟨g, j * 3 + 2, none⟩ = some v := by
        rw [ho.cellAt (j * 3 + 2) (by omega)]
        exact ⟨_, List.getElem?_eq_getElem (by omega)⟩
      have h1 := ho.stored (j * 3) (.int .i64 ((k : Int) + (j : Int) * 3))
      have h2 := h1.1.stored (j * 3 + 1) (.int .i64 ((k : Int) + (j : Int) * 3 + 1))
      have h3 := h2.1.stored (j * 3 + 2) (.int .i64 ((k : Int) + (j : Int) * 3 + 1 + 1))
      have HS := hide h3.1
      have HG := hide ((h1.2.trans h2.2).trans h3.2)
      have hM := markedE_set xs k j n hl hlt
      rw [show ((k + j * 3 : Nat) : Int) = (k : Int) + (j : Int) * 3 by omega, show ((k + j * 3 + 1 : Nat) : Int) = (k : Int) + (j : Int) * 3 + 1 by omega, show ((k + j * 3 + 2 : Nat) : Int) = (k : Int) + (j : Int) * 3 + 1 + 1 by omega] at hM
      have HM := hide hM
      clear h1 h2 h3 hlen ho hM
      go_wp2
      go_roundw
      case rel => exact ⟨j + 1, by omega, by go_num, by go_num, by rw [← HM.out]; exact HS.out, hg.trans HG.out⟩
      case measure => simp [intOf]; omega
    · go_wp2
      go_ret
      obtain rfl : j = n := by omega
      refine ⟨rfl, ?_, hg⟩
      rw [← markedE_all xs k j hl]
      exact ho

set_option maxRecDepth 100000 in
set_option maxHeartbeats 800000 in
theorem heldLineS_marked (B : Nat) (A : Option Addr) (n c k : Nat) (w : World) (hk : k + n * 3 ≤ 1073741824) (h : RdE w B A (mkE k n)) :
    Calls Try.prog 149 #[.slice A n c, .int .i64 k] w fun e w' => e = .returned (.int .i64 ((k + n * 3 : Nat) : Int)) ∧ w = w' := by
  go_enter Try.func149, Try.ntmps149
  go_wp2
  go_loop [1, 5] (fun q i => ∃ j : Nat, j ≤ n ∧ i = .int .i64 j ∧ q = .int .i64 ((k : Int) + (j : Int) * 3)) (fun _ i => n - (intOf i).toNat)
  case atStart => exact ⟨0, Nat.zero_le _, rfl, by go_num⟩
  case round =>
    obtain ⟨j, hj, rfl, rfl⟩ := hrel
    by_cases hlt : j < n
    · obtain ⟨b, off, rfl, _, hc0, hc1, hc2⟩ := h.get (i := j) (by rw [mkE_length]; exact hlt)
      simp only [mkE, List.getElem_map, List.getElem_range] at hc0 hc1 hc2
      rw [show ((k + j * 3 : Nat) : Int) = (k : Int) + (j : Int) * 3 by omega] at hc0
      rw [show ((k + j * 3 + 1 : Nat) : Int) = (k : Int) + (j : Int) * 3 + 1 by omega] at hc1
      rw [show ((k + j * 3 + 2 : Nat) : Int) = (k : Int) + (j : Int) * 3 + 1 + 1 by omega] at hc2
      go_wp2
      go_round
      case rel => exact ⟨j + 1, by omega, by go_num, by go_num⟩
      case measure => simp [intOf]; omega
    · go_wp2
      go_ret
      obtain rfl : j = n := by omega
      exact ⟨ret_int (by omega), rfl⟩

/-- A row turned in its own memory. -/
theorem OwnTLine.turn {w w1 : World} {base i : Nat} {v u : Value} {t : List (List Ev)} {us : List Value} {es' : List Ev} (h : OwnTLine w base v t us) (hui : us[i]? = some u) (hg : w.grownBy w1 u.ownBlock) (hu' : w1.ownsRow base 115 3 u es'.length (evs es')) :
    OwnTLine w1 base v (t.set i es') us := by
  obtain ⟨hi, hu, hu3⟩ := h.at_ hui
  refine ⟨?_, fun j hj => ?_, h.apart⟩
  · rw [List.length_set]
    exact h.row.kept hg (own_sep fun b hb e => hu3 b e hb)
  · have hj' : j < t.length := by rw [List.length_set] at hj; exact hj
    obtain ⟨x, h1, h2, h3⟩ := h.rows j hj'
    by_cases hji : j = i
    · subst hji
      rw [hui] at h1
      cases h1
      refine ⟨u, hui, ?_, hu3⟩
      rw [List.getElem_set_self]
      exact hu'
    · refine ⟨x, h1, ?_, h3⟩
      rw [List.getElem_set_ne (by omega)]
      exact h2.kept hg (own_sep fun b hb e => h.apart i j u x (by omega) hui h1 b e hb)

set_option maxRecDepth 100000 in
set_option maxHeartbeats 800000 in
theorem markLineSS_any (base k : Nat) (t : List (List Ev)) (us : List Value) (A : Option Addr) (c : Nat) (w : World) (hk : endT k t ≤ 1073741824) (ht : t.length ≤ 1048576) (h : OwnTLine w base (.slice A t.length c) t us) :
    Calls Try.prog 107 #[.slice A t.length c, .int .i64 k] w fun e w' => e = .returned (.int .i64 (endT k t : Nat)) ∧ OwnTLine w' base (.slice A t.length c) (mkT k t) us ∧ Only us w w' := by
  go_enter Try.func107, Try.ntmps107
  go_wp2
  go_loopw [1, 5] (fun q i wr => ∃ j : Nat, j ≤ t.length ∧ i = .int .i64 j ∧ (∃ K, Hid (K = endT k (t.take j)) ∧ q = .int .i64 (K : Nat)) ∧ OwnTLine wr base (.slice A t.length c) (halfM k t j) us ∧ Only us w wr) (fun _ i _ => t.length - (intOf i).toNat)
  case atStart => exact ⟨0, Nat.zero_le _, rfl, ⟨k, hide (by simp [endT, sumT]), rfl⟩, by rw [halfM_zero]; exact h, Only.refl _ _⟩
  case round =>
    obtain ⟨j, hj, rfl, ⟨K, HK, rfl⟩, ho, hs⟩ := hrel
    have hlen := halfM_length k t j hj
    by_cases hlt : j < t.length
    · obtain ⟨g, rfl⟩ : ∃ g, A = some ⟨g, 0, none⟩ := by
        rcases ho.row.2 with ⟨h', h''⟩ | ⟨g, cap, cur, h', _⟩
        · rw [hlen] at h''; omega
        · simp only [Value.slice.injEq] at h'
          exact ⟨g, h'.1⟩
      have hrow := ho.row
      rw [hlen] at hrow
      obtain ⟨u, hui, hru, hu3⟩ := ho.rows j (by omega)
      rw [halfM_get k t j hlt] at hru
      obtain ⟨a, d, hud⟩ := own_shape hru
      subst hud
      have hx0 : wr.cell? ⟨g, j, none⟩ = some (.slice a t[j].length d) := by
        rw [hrow.cellAt j (by omega)]
        exact hui
      have hend := endT_snoc k t j hlt
      have hle : endT k (t.take (j + 1)) ≤ endT k t := by have := sumT_take_le t (j + 1); unfold endT; omega
      have HE := hide hend
      have hk2 : endT k (t.take j) + t[j].length * 3 ≤ 1073741824 := by omega
      have MK := hide (markLineS_any base a t[j].length d (endT k (t.take j)) _ wr hk2 hru)
      have HM := hide (halfM_set k t j hlt)
      clear hend hle hlen
      rw [← HK.out] at MK hk2
      clear hrow
      go_wp2_with fail
      refine MK.out.mono ?_
      rintro e w2 ⟨rfl, o2, g2⟩
      have hT := ho.turn (es' := mkE K t[j].length) hui g2 (by rw [mkE_length]; exact o2)
      have hS := hs.trans (Only.of_grown g2 (List.mem_of_getElem? hui))
      rw [HK.out] at hT
      rw [HM.out] at hT
      clear g2 o2 ho hru hs hx0 MK
      go_wp2
      go_roundw
      case rel => exact ⟨j + 1, by omega, by go_num, ⟨K + t[j].length * 3, hide (by rw [HE.out, HK.out]), rfl⟩, hT, hS⟩
      case measure => simp [intOf]; omega
    · obtain rfl : j = t.length := by omega
      rw [halfM_all] at ho
      go_wp2
      go_ret
      exact ⟨by rw [HK.out, List.take_length]; rfl, ho, hs⟩

set_option maxRecDepth 100000 in
set_option maxHeartbeats 800000 in
theorem heldLineSS_marked (B k : Nat) (t : List (List Ev)) (A : Option Addr) (c : Nat) (w : World) (hk : endT k t ≤ 1073741824) (ht : t.length ≤ 1048576) (h : RdT w B A (mkT k t)) :
    Calls Try.prog 136 #[.slice A t.length c, .int .i64 k] w fun e w' => e = .returned (.int .i64 (endT k t : Nat)) ∧ w = w' := by
  go_enter Try.func136, Try.ntmps136
  go_wp2
  go_loop [1, 5] (fun q i => ∃ j : Nat, j ≤ t.length ∧ i = .int .i64 j ∧ (∃ K, Hid (K = endT k (t.take j)) ∧ q = .int .i64 (K : Nat))) (fun _ i => t.length - (intOf i).toNat)
  case atStart => exact ⟨0, Nat.zero_le _, rfl, k, hide (by simp [endT, sumT]), rfl⟩
  case round =>
    obtain ⟨j, hj, rfl, K, HK, rfl⟩ := hrel
    by_cases hlt : j < t.length
    · have hjm : j < (mkT k t).length := by rw [mkT_length]; exact hlt
      obtain ⟨b, off, a, d, rfl, hbb, hc0, hle, hcm, hr⟩ := h.get hjm
      rw [mkT_get k t j hlt hjm] at hc0 hr
      rw [mkE_length] at hc0
      have hend := endT_snoc k t j hlt
      have hle2 : endT k (t.take (j + 1)) ≤ endT k t := by have := sumT_take_le t (j + 1); unfold endT; omega
      have HE := hide hend
      have hk2 : endT k (t.take j) + t[j].length * 3 ≤ 1073741824 := by omega
      have HL := hide (heldLineS_marked B a t[j].length d (endT k (t.take j)) w hk2 hr)
      rw [← HK.out] at HL hk2
      clear hend hle hle2 hr
      go_wp2_with fail
      refine HL.out.mono ?_
      rintro e w2 ⟨rfl, rfl⟩
      go_wp2
      go_round
      case rel => exact ⟨j + 1, by omega, by go_num, K + t[j].length * 3, hide (by rw [HE.out, HK.out]), rfl⟩
      case measure => simp [intOf]; omega
    · obtain rfl : j = t.length := by omega
      go_wp2
      go_ret
      exact ⟨by rw [HK.out, List.take_length]; rfl, rfl⟩

/-- After k rounds of a copy into own rows. -/
structure HalfOLine (base : Nat) (wr : World) (t : List (List Ev)) (k : Nat) (vs : List Value) : Prop where
  rows : ∀ i, i < k → (h : i < t.length) → ∃ u, vs[i]? = some u ∧ wr.ownsRow (base + 1) 115 3 u t[i].length (evs t[i])
  apart : ∀ (i j : Nat) (u u' : Value), i < k → j < k → i ≠ j → vs[i]? = some u → vs[j]? = some u' → ∀ b, u.ownBlock = some b → u'.ownBlock ≠ some b

set_option maxRecDepth 100000 in
set_option maxHeartbeats 800000 in
theorem toLineSS_own (t : List (List Ev)) (A : Option Addr) (c : Nat) (w : World) (hm : LenT 1048576 t) (h : RdT w w.heap.size A t) :
    Calls Try.prog 102 #[.slice A t.length c] w fun e w' => ∃ g us, e = .returned (.slice (some ⟨g, 0, none⟩) t.length t.length) ∧ OwnTLine w' w.heap.size (.slice (some ⟨g, 0, none⟩) t.length t.length) t us ∧ Below w.heap.size w w' := by
  obtain ⟨hm1, hm2⟩ := hm
  obtain ⟨i0, hi, hz0, hz1, hz2⟩ := info_parts info_lines
  go_enter Try.func102, Try.ntmps102
  go_wp2_with (at_make; refine wpList_make_full _ rfl _ _ 24 rfl w.heap.size 112 i0 (.slice none 0 0) 1 Try.underlying24 hi hz0 hz1 .i64 .i64 _ _ t.length rfl rfl rfl rfl (by rw [hz2]; omega) (by unfold maxLen; omega) (Nat.le_refl _) ?_; intro w1 hown hg)
  have hb1 : Below w.heap.size w w1 := (Below.refl _ _).grown hg (Nat.le_refl _) (by simp)
  clear hg
  go_loopw [4] (fun i wr => ∃ (k : Nat) (vs : List Value), k ≤ t.length ∧ i = .int .i64 k ∧ wr.ownsRow w.heap.size 112 1 (.slice (some ⟨w.heap.size, 0, none⟩) t.length t.length) t.length vs ∧ HalfOLine w.heap.size wr t k vs ∧ Below w.heap.size w wr) (fun i _ => t.length - (intOf i).toNat)
  case atStart => exact ⟨0, _, Nat.zero_le _, rfl, hown, ⟨fun i hi => by omega, fun i j u u' hi => by omega⟩, hb1⟩
  case round =>
    obtain ⟨k, vs, hk, rfl, ho, hH, hb⟩ := hrel
    have hlen : vs.length = t.length := by have := ho.1; omega
    by_cases hlt : k < t.length
    · obtain ⟨b, off, a, d, rfl, hbb, hc0, hle, hcm, hr⟩ := (h.below hb).get hlt
      have hz : w.heap.size < wr.heap.size := (ho.lt w.heap.size rfl).2
      go_wp2_with fail
      refine (toLineS_any t[k] a d _ (hm2 k hlt) hr.lt).mono ?_
      rintro e w2 ⟨g2, rfl, o2, hb2⟩
      have hb3 := hb.trans (hb2.mono hb.size)
      have ho2 := own_below ho hb2 (Nat.le_refl _)
      have hf0 := ho2.frozenAt k
      obtain ⟨v0, hx0⟩ : ∃ v, w2.cell? ⟨w.heap.size, k, none⟩ = some v := by
        rw [ho2.cellAt k (by omega)]
        exact ⟨_, List.getElem?_eq_getElem (by omega)⟩
      have hs := (ho2.stored k (.slice (some ⟨g2, 0, none⟩) t[k].length t[k].length)).1
      have hg2 := o2.lt g2 rfl
      have hH2 : HalfOLine w.heap.size (w2.setCell ⟨w.heap.size, k, none⟩ (.slice (some ⟨g2, 0, none⟩) t[k].length t[k].length)) t (k + 1) (vs.set k (.slice (some ⟨g2, 0, none⟩) t[k].length t[k].length)) := by
        have st : ∀ (u : Value) (n : Nat) (xs : List Value), w2.ownsRow (w.heap.size + 1) 115 3 u n xs → (w2.setCell ⟨w.heap.size, k, none⟩ (.slice (some ⟨g2, 0, none⟩) t[k].length t[k].length)).ownsRow (w.heap.size + 1) 115 3 u n xs :=
          fun u n xs hu => hu.kept (grown_set w2 w.heap.size k _) (own_sep fun b hb e => by have := hu.lt b hb; simp at e; omega)
        refine ⟨fun i hi hit => ?_, ?_⟩
        · by_cases hik : i = k
          · subst hik
            exact ⟨_, by rw [List.getElem?_set_self (by omega)], st _ _ _ (own_mono o2 (by omega))⟩
          · obtain ⟨u, q1, q2⟩ := hH.rows i (by omega) hit
            exact ⟨u, by rw [List.getElem?_set_ne (by omega)]; exact q1, st _ _ _ (own_below q2 hb2 (Nat.le_refl _))⟩
        · have key : ∀ (j : Nat) (x : Value), j < k + 1 → (vs.set k (.slice (some ⟨g2, 0, none⟩) t[k].length t[k].length))[j]? = some x → (j = k ∧ x = .slice (some ⟨g2, 0, none⟩) t[k].length t[k].length) ∨ (j < k ∧ vs[j]? = some x) := by
            intro j x hj hx
            by_cases hjk : j = k
            · subst hjk
              rw [List.getElem?_set_self (by omega)] at hx
              exact .inl ⟨rfl, (Option.some.inj hx).symm⟩
            · rw [List.getElem?_set_ne (by omega)] at hx
              exact .inr ⟨by omega, hx⟩
          have old : ∀ (j : Nat) (x : Value), j < k → vs[j]? = some x → ∀ b, x.ownBlock = some b → b < wr.heap.size := by
            intro j x hj hx b hb
            obtain ⟨u, q1, q2⟩ := hH.rows j hj (by omega)
            rw [hx] at q1
            cases q1
            exact (q2.lt b hb).2
          intro p q x y hp hq hpq hx hy b hb
          rcases key p x hp hx with ⟨p1, rfl⟩ | ⟨p1, p2⟩
          · rcases key q y hq hy with ⟨q1, rfl⟩ | ⟨q1, q2⟩
            · omega
            · intro e
              have := old q y q1 q2 b e
              simp only [Value.ownBlock, Option.some.injEq] at hb
              omega
          · rcases key q y hq hy with ⟨q1, rfl⟩ | ⟨q1, q2⟩
            · intro e
              have := old p x p1 p2 b hb
              simp only [Value.ownBlock, Option.some.injEq] at e
              omega
            · exact hH.apart p q x y p1 q1 hpq p2 q2 b hb
      have HS := hide hs
      have HH := hide hH2
      clear ho2 ho hs hH2 o2 hH
      go_wp2
      go_roundw
      case rel => exact ⟨k + 1, _, by omega, by go_num, HS.out, HH.out, hb3.setCell (Nat.le_refl _) _⟩
      case measure => simp [intOf]; omega
    · go_wp2
      go_ret
      refine ⟨_, vs, rfl, ⟨ho, fun i hi => ?_, ?_⟩, hb⟩
      · obtain ⟨u, q1, q2⟩ := hH.rows i (by omega) hi
        exact ⟨u, q1, own_mono q2 (by omega), fun b hb e => by have := q2.lt b hb; simp only [Value.ownBlock, Option.some.injEq] at e; omega⟩
      · intro i j u u' hij hu hu' b hb
        have hi : i < vs.length := by
          rcases Nat.lt_or_ge i vs.length with x | x
          · exact x
          · rw [List.getElem?_eq_none x] at hu; cases hu
        have hj : j < vs.length := by
          rcases Nat.lt_or_ge j vs.length with x | x
          · exact x
          · rw [List.getElem?_eq_none x] at hu'; cases hu'
        exact hH.apart i j u u' (by omega) (by omega) hij hu hu' b hb
theorem own_boundLine {w : World} {base : Nat} {v : Value} {t : List (List Ev)} {us : List Value} (h : OwnTLine w base v t us) : ∀ u ∈ us, ∀ b, u.ownBlock = some b → b < w.heap.size := fun u hu b hb => by
  obtain ⟨i, hi⟩ := List.getElem?_of_mem hu
  obtain ⟨_, h1, _⟩ := h.at_ hi
  exact (h1.lt b hb).2
end Go.Proofs.Ytifijhfeeammkaa
