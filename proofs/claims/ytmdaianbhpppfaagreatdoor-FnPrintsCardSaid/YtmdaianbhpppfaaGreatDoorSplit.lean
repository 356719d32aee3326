/- strings.Split at one byte, strings.CutSuffix: at strings known as rows of numbers. -/
import Derived.Test.YtmdaianbhpppfaaGreatDoorGPs
import Derived.Test.YtmdaianbhpppfaaGreatDoorGCut
import Derived.Test.YtmdaianbhpppfaaGreatDoorStrs
import Derived.Test.YtmdaianbhpppfaaGreatDoorShelf
import Derived.Lib.IndexBytes
import Derived.Lib.CountLaws
import Derived.Lib.Split
namespace Go.Proofs.YtmdaianbhpppfaaGreatDoor
open Go.RowKit

def b8f (x : Int) : UInt8 := UInt8.ofNat x.toNat
theorem b8f_inj {x y : Int} (hx : 0 ≤ x ∧ x < 256) (hy : 0 ≤ y ∧ y < 256) (h : b8f x = b8f y) : x = y := by
  have := congrArg UInt8.toNat h
  unfold b8f at this
  simp only [UInt8.toNat_ofNat'] at this
  omega
theorem idxB_at {s : Int} (hs : 0 ≤ s ∧ s < 256) : ∀ (x r : List Int), B8 x → (∀ c ∈ x, c ≠ s) → Lib.indexByte ((x ++ (s :: r)).map b8f) (b8f s) = x.length
  | [], r, _, _ => by simp [Lib.indexByte]
  | c :: x, r, hb, h => by
    have hc := hb c (List.mem_cons_self ..)
    have ih := idxB_at hs x r (fun y hy => hb y (List.mem_cons_of_mem _ hy)) (fun y hy => h y (List.mem_cons_of_mem _ hy))
    have hne : (b8f c == b8f s) = false := beq_eq_false_iff_ne.2 (fun e => h c (List.mem_cons_self ..) (b8f_inj hc hs e))
    rw [List.cons_append, List.map_cons, Lib.indexByte, ih, hne]
    have h1 : ((x.length : Int) == -1) = false := beq_eq_false_iff_ne.2 (by omega)
    rw [h1]
    simp
theorem idxB_none {s : Int} (hs : 0 ≤ s ∧ s < 256) : ∀ (x : List Int), B8 x → (∀ c ∈ x, c ≠ s) → Lib.indexByte (x.map b8f) (b8f s) = -1
  | [], _, _ => rfl
  | c :: x, hb, h => by
    have hc := hb c (List.mem_cons_self ..)
    have ih := idxB_none hs x (fun y hy => hb y (List.mem_cons_of_mem _ hy)) (fun y hy => h y (List.mem_cons_of_mem _ hy))
    have hne : (b8f c == b8f s) = false := beq_eq_false_iff_ne.2 (fun e => h c (List.mem_cons_self ..) (b8f_inj hc hs e))
    rw [List.map_cons, Lib.indexByte, ih, hne]
    rfl
theorem first_at (s : Int) : ∀ (l : List Int), (∀ c ∈ l, c ≠ s) ∨ ∃ x r, l = x ++ (s :: r) ∧ ∀ c ∈ x, c ≠ s
  | [] => .inl (fun _ h => by simp at h)
  | c :: l => by
    by_cases hc : c = s
    · exact .inr ⟨[], l, by rw [hc]; rfl, fun _ h => by simp at h⟩
    · rcases first_at s l with h | ⟨x, r, h1, h2⟩
      · refine .inl (fun d hd => ?_)
        rcases List.mem_cons.1 hd with hd | hd
        · rw [hd]; exact hc
        · exact h d hd
      · refine .inr ⟨c :: x, r, by rw [h1]; rfl, fun d hd => ?_⟩
        rcases List.mem_cons.1 hd with hd | hd
        · rw [hd]; exact hc
        · exact h2 d hd
theorem indexB_nums (l : List Int) (s : Int) : Lib.indexB (strOfNums l) (strOfNums [s]) = Lib.indexByte (l.map b8f) (b8f s) := Lib.index_one _ _
theorem split_nums {s : Int} (hs : 0 ≤ s ∧ s < 256) : ∀ (f : Nat) (l : List Int), l.length < f → B8 l →
    Lib.splitB (strOfNums [s]) 0 (Lib.countB (strOfNums l) (strOfNums [s])) (strOfNums l) = (cutS s [] l).map strOfNums ∧ Lib.countB (strOfNums l) (strOfNums [s]) + 1 = (cutS s [] l).length
  | 0, l, h, _ => by omega
  | f + 1, l, hf, hb => by
    rcases first_at s l with h | ⟨x, r, rfl, h⟩
    · have hi := (indexB_nums l s).trans (idxB_none hs l hb h)
      have hc := cutS_end (s := s) l [] h
      rw [List.nil_append] at hc
      rw [Lib.countB_miss _ _ hi, Lib.splitB_zero, hc]
      exact ⟨rfl, rfl⟩
    · have hx : B8 x := fun y hy => hb y (List.mem_append_left _ hy)
      have hr : B8 r := fun y hy => hb y (List.mem_append_right _ (List.mem_cons_of_mem _ hy))
      have hi := (indexB_nums (x ++ (s :: r)) s).trans (idxB_at hs x r hx h)
      have hs1 : (strOfNums [s]).size = 1 := strOfNums_size [s]
      have hsz := strOfNums_size (x ++ (s :: r))
      have e1 : (strOfNums (x ++ (s :: r))).extract (x.length + (strOfNums [s]).size) (strOfNums (x ++ (s :: r))).size = strOfNums r := by
        rw [hs1, hsz, strS_cut, List.take_of_length_le (by simp; omega)]
        congr 1
        rw [show x ++ s :: r = (x ++ [s]) ++ r by simp, show x.length + 1 = (x ++ [s]).length by simp, List.drop_left]
      have e2 : (strOfNums (x ++ (s :: r))).extract 0 (x.length + 0) = strOfNums x := by
        rw [strS_cut]
        simp
      have ih := split_nums hs f r (by simp at hf; omega) hr
      have hc := cutS_at (s := s) x [] r h
      rw [List.nil_append, show x ++ ([s] ++ r) = x ++ (s :: r) from rfl] at hc
      rw [Lib.countB_hit _ _ x.length (by omega) hi, e1, Nat.add_comm 1, Lib.splitB_hit _ _ _ _ x.length hi, e1, e2, hc, ih.1]
      exact ⟨rfl, by rw [List.length_cons, ← ih.2]⟩

theorem split_any (l : List Int) (s : Int) (w : World) (hs : 0 ≤ s ∧ s < 256) (hl : l.length ≤ 1048576) (b8 : B8 l) (hm : ∃ m, w.cell? ⟨1, 0, none⟩ = some (.int .i64 m)) :
    Calls Tryz.prog 58 #[.string (strOfNums l), .string (strOfNums [s])] w fun e w' => e = .returned (.slice (some ⟨w.heap.size, 0, none⟩) (cutS s [] l).length (cutS s [] l).length) ∧ w' = w.alloc (.cells (sts (cutS s [] l)).toArray 9) := by
  obtain ⟨m, hm⟩ := hm
  refine (Tryz.strings_Split _ _ m w (by rw [strOfNums_size]; omega) hm (by rw [strOfNums_size]; simp)).mono ?_
  rintro e w' ⟨rfl, rfl⟩
  obtain ⟨h1, h2⟩ := split_nums hs (l.length + 1) l (by omega) b8
  rw [h1, h2]
  exact ⟨rfl, by unfold sts; rw [List.map_map]; rfl⟩
end Go.Proofs.YtmdaianbhpppfaaGreatDoor
