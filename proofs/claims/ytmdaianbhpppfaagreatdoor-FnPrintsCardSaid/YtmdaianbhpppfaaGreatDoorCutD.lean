/- The contract of the document's l1Cut: a text cut at a byte. -/
import Derived.Test.YtmdaianbhpppfaaGreatDoorAddC
namespace Go.Proofs.YtmdaianbhpppfaaGreatDoor
open Go.RowKit

/-- A slice of the strings ls, new. -/
def CutPost (ls : List (List Int)) (w : World) (e : Ending) (w' : World) : Prop := ∃ A c, e = .returned (.slice A ls.length c) ∧ ls.length ≤ c ∧ RdS w' w'.heap.size A ls ∧ (∀ a, A = some a → w.heap.size ≤ a.block) ∧ Below w.heap.size w w'
/-- What is cut so far. -/
def CutAt (s : Int) (l : List Int) (dn : List (List Int)) (f k : Nat) : Prop :=
  (k ≤ l.length ∧ f ≤ k ∧ cutS s [] l = dn ++ cutS s ((l.drop f).take (k - f)) (l.drop k)) ∨ (k = l.length + 1 ∧ cutS s [] l = dn)
theorem CutAt.start (s : Int) (l : List Int) : CutAt s l [] 0 0 := .inl ⟨Nat.zero_le _, Nat.le_refl _, by simp⟩
theorem CutAt.hit {s : Int} {l : List Int} {dn : List (List Int)} {f k : Nat} (h : CutAt s l dn f k) (hk : k < l.length) (hs : l[k] = s) : CutAt s l (dn ++ [(l.drop f).take (k - f)]) (k + 1) (k + 1) := by
  rcases h with ⟨h1, h2, h3⟩ | ⟨h1, _⟩
  · refine .inl ⟨by omega, Nat.le_refl _, ?_⟩
    rw [h3, List.drop_eq_getElem_cons hk, cutS, if_pos hs]
    simp
  · omega
theorem CutAt.miss {s : Int} {l : List Int} {dn : List (List Int)} {f k : Nat} (h : CutAt s l dn f k) (hk : k < l.length) (hs : ¬ l[k] = s) : CutAt s l dn f (k + 1) := by
  rcases h with ⟨h1, h2, h3⟩ | ⟨h1, _⟩
  · refine .inl ⟨by omega, by omega, ?_⟩
    rw [h3, List.drop_eq_getElem_cons hk, cutS, if_neg hs]
    congr 2
    rw [show k + 1 - f = (k - f) + 1 by omega, List.take_succ_eq_append_getElem (by rw [List.length_drop]; omega)]
    congr 2
    rw [List.getElem_drop]
    congr 1
    omega
  · omega
theorem CutAt.end_ {s : Int} {l : List Int} {dn : List (List Int)} {f k : Nat} (h : CutAt s l dn f k) (hk : k = l.length) : CutAt s l (dn ++ [(l.drop f).take (k - f)]) (k + 1) (k + 1) := by
  rcases h with ⟨h1, h2, h3⟩ | ⟨h1, _⟩
  · refine .inr ⟨by omega, ?_⟩
    rw [h3, show l.drop k = [] from List.drop_eq_nil_of_le (by omega)]
    rfl
  · omega
theorem CutAt.le {s : Int} {l : List Int} {dn : List (List Int)} {f k : Nat} (h : CutAt s l dn f k) (hk : k ≤ l.length) : f ≤ k := by
  rcases h with ⟨_, h2, _⟩ | ⟨h1, _⟩
  · exact h2
  · omega
theorem CutAt.done {s : Int} {l : List Int} {dn : List (List Int)} {f k : Nat} (h : CutAt s l dn f k) (hk : ¬ k ≤ l.length) : cutS s [] l = dn := by
  rcases h with ⟨h1, _⟩ | ⟨_, h2⟩
  · omega
  · exact h2

set_option maxRecDepth 100000 in
set_option maxHeartbeats 1600000 in
theorem l1Cut_any (l : List Int) (s : Int) (w : World) (b8 : B8 l) (hl : l.length ≤ 4000) :
    Calls Tryz.prog 68 #[.string (strOfNums l), .int .u8 s] w (CutPost (cutS s [] l) w) := by
  obtain ⟨i0, hi, hz0, hz1, hz2⟩ := info_parts info_string1
  obtain ⟨R, hR⟩ : ∃ R, R = cutS s [] l := ⟨_, rfl⟩
  rw [← hR]
  have HR := hide hR
  clear hR
  unfold CutPost
  have z0 := strOfNums_size l
  have oS := World.ownsRow_lit w #[] 0 (e := 9) (size := 1) (base := w.heap.size) (Nat.le_refl _) (by simp) rfl
  have bS : Below w.heap.size w (w.alloc (.cells #[] 9)) := (Below.refl _ _).alloc (Nat.le_refl _) _
  go_enter Tryz.func68, Tryz.ntmps68
  go_wp2
  generalize w.alloc (.cells #[] 9) = w1 at *
  go_loopw [5, 6, 7] (fun v f i wr => ∃ (k fr : Nat) (dn : List (List Int)), k ≤ l.length + 1 ∧ i = .int .i64 k ∧ f = .int .i64 fr ∧ fr ≤ l.length + 1 ∧ dn.length ≤ k ∧ wr.ownsRow w.heap.size 9 1 v dn.length (sts dn) ∧ Below w.heap.size w wr ∧ Hid (CutAt s l dn fr k)) (fun _ _ i _ => l.length + 1 - (intOf i).toNat)
  case atStart => exact ⟨0, 0, [], Nat.zero_le _, rfl, rfl, Nat.zero_le _, Nat.le_refl _, oS, bS, hide (CutAt.start s l)⟩
  case round =>
    obtain ⟨k, fr, dn, hk, rfl, rfl, hfr, hdn, ho, hb, HC⟩ := hrel
    obtain ⟨D, d, hv⟩ := own_shape ho
    subst hv
    have zb := hb.size
    by_cases hle : k ≤ l.length
    · have hfk := HC.out.le hle
      have CUT := hide (fun w => run_scut (P := Tryz.prog) Tryz.underlying9 (l := l) (i := fr) (j := k) hfk hle .i64 .i64 (z := fr) (z' := k) rfl rfl w)
      have cutF := CUT.out
      obtain ⟨X, hX⟩ : ∃ X, X = (l.drop fr).take (k - fr) := ⟨_, rfl⟩
      rw [← hX] at cutF
      by_cases heq : k = l.length
      · have q1 : ((k : Int) == (l.length : Int)) = true := beq_iff_eq.2 (by omega)
        have HE := hide (HC.out.end_ heq)
        rw [← hX] at HE
        clear hX heq HC
        go_wp2_with (at_builtin; refine wpList_append_own_at _ rfl (.tmp 26) (.tmp 31) 61 rfl w.heap.size 9 i0 (.string { data := #[] }) 1 16 Tryz.underlying61 hi hz0 hz1 hz2 rfl (by decide) (.slice D dn.length d) dn.length (sts dn) rfl (ho.alloc _) ⟨wr.heap.size, 0, none⟩ 1 1 [.string (strOfNums X)] rfl rfl (cell1_new _ _ _) (one_cell1 rfl) (by unfold maxLen; omega) (by omega) (by simp; omega) ?_; intro v' w4 hown' hgrow _ hat; have hbl : Below w.heap.size w w4 := ((hb.alloc zb (.cells #[.string (strOfNums X)] 9)).trans (grown_below (ho.alloc (.cells #[.string (strOfNums X)] 9)) hgrow (by simp; omega) (Nat.le_refl _))); clear hgrow hat)
        have ho2 : w4.ownsRow w.heap.size 9 1 v' (dn ++ [X]).length (sts (dn ++ [X])) := by rw [sts_app, List.length_append]; exact hown'
        clear hown'
        go_roundw
        case rel => exact ⟨k + 1, k + 1, dn ++ [X], by omega, by go_num, by go_num, by omega, by rw [List.length_append]; simp only [List.length_cons, List.length_nil]; omega, ho2, hbl, HE⟩
        case measure => simp [intOf]; omega
      · have hlt : k < l.length := by omega
        have q1 : ((k : Int) == (l.length : Int)) = false := beq_eq_false_iff_ne.2 (by omega)
        have GET := hide (fun w => run_sget (P := Tryz.prog) Tryz.underlying9 b8 hlt .i64 (z := k) rfl w)
        have getF := GET.out
        obtain ⟨g0, g1⟩ := b8.get k hlt
        obtain ⟨y, hy⟩ : ∃ y, y = l[k] := ⟨_, rfl⟩
        rw [← hy] at getF
        by_cases hys : y = s
        · have q2 : (y == s) = true := beq_iff_eq.2 hys
          have HE := hide (HC.out.hit hlt (by rw [← hy]; exact hys))
          rw [← hX] at HE
          clear hX hy hys heq HC GET CUT g0 g1
          go_wp2_with (at_builtin; refine wpList_append_own_at _ rfl (.tmp 26) (.tmp 31) 61 rfl w.heap.size 9 i0 (.string { data := #[] }) 1 16 Tryz.underlying61 hi hz0 hz1 hz2 rfl (by decide) (.slice D dn.length d) dn.length (sts dn) rfl (ho.alloc _) ⟨wr.heap.size, 0, none⟩ 1 1 [.string (strOfNums X)] rfl rfl (cell1_new _ _ _) (one_cell1 rfl) (by unfold maxLen; omega) (by omega) (by simp; omega) ?_; intro v' w4 hown' hgrow _ hat; have hbl : Below w.heap.size w w4 := ((hb.alloc zb (.cells #[.string (strOfNums X)] 9)).trans (grown_below (ho.alloc (.cells #[.string (strOfNums X)] 9)) hgrow (by simp; omega) (Nat.le_refl _))); clear hgrow hat)
          have ho2 : w4.ownsRow w.heap.size 9 1 v' (dn ++ [X]).length (sts (dn ++ [X])) := by rw [sts_app, List.length_append]; exact hown'
          clear hown'
          go_roundw
          case rel => exact ⟨k + 1, k + 1, dn ++ [X], by omega, by go_num, by go_num, by omega, by rw [List.length_append]; simp only [List.length_cons, List.length_nil]; omega, ho2, hbl, HE⟩
          case measure => simp [intOf]; omega
        · have q2 : (y == s) = false := beq_eq_false_iff_ne.2 hys
          have HE := hide (HC.out.miss hlt (by rw [← hy]; exact hys))
          clear hX hy hys heq HC GET CUT g0 g1
          go_wp2
          go_roundw
          case rel => exact ⟨k + 1, fr, dn, by omega, by go_num, rfl, hfr, by omega, ho, hb, HE⟩
          case measure => simp [intOf]; omega
    · have HN := hide (show R = dn by rw [HR.out]; exact HC.out.done hle)
      have hcp := (own_capE ho).1
      have hrd := RdS.of_own ho
      have hlo : ∀ a, D = some a → w.heap.size ≤ a.block := fun a e => by
        subst e
        exact (ho.lt a.block rfl).1
      have q1 : ¬ (k : Int) ≤ (l.length : Int) := by omega
      clear HC ho
      go_wp2
      go_ret
      exact ⟨D, d, by rw [HN.out]; rfl, by rw [HN.out]; exact hcp, by rw [HN.out]; exact hrd, hlo, hb⟩
end Go.Proofs.YtmdaianbhpppfaaGreatDoor
