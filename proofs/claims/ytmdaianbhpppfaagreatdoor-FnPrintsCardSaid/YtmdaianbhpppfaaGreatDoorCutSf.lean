/- strings.CutSuffix at a line's end, at strings known as rows of numbers. The library's own text is walked. -/
import Derived.Test.YtmdaianbhpppfaaGreatDoorGCut
namespace Go.Proofs.YtmdaianbhpppfaaGreatDoor
open Go.RowKit

abbrev nlS : ByteArray := { data := #[10] }
theorem run_sfromI {t : TypeId} (ht : Tryz.prog.underlying t = some .string) {l : List Int} {i : Nat} (h : i ≤ l.length) (k : IntKind) {z : Int} (hz : z = i) (w : World) : (Instr.slice t (.string (strOfNums l)) (some (.int k z)) none none).run Tryz.prog w = .ok (.string (strOfNums (l.drop i))) w := run_sfrom ht h k hz w
theorem hasSuf_any (l : List Int) (w : World) (bl : B8 l) (hl : l.length ≤ maxLen) :
    Calls Tryz.prog 86 #[.string (strOfNums l), .string nlS] w fun e w' => e = .returned (.bool (l.drop (l.length - 1) == [10])) ∧ w = w' := by
  unfold maxLen at hl
  have z0 := strOfNums_size l
  by_cases h : 1 ≤ l.length
  · obtain ⟨n, hn⟩ : ∃ n, l.length = n + 1 := ⟨l.length - 1, by omega⟩
    have s1 : IntKind.i64.wrap ((l.length : Int) - 1) = n := by rw [show (l.length : Int) - 1 = n by omega]; exact IntWalk.i64_in _ (by omega)
    have p1 := fun (k : IntKind) (w : World) => run_sfrom (P := Tryz.prog) Tryz.underlying9 (l := l) (i := n) (by omega) k (z := n) rfl w
    have q1 := seq_lit (bl.drop n) (m := [10]) (fun x hx => by simp at hx; omega) (u := [10]) rfl
    rw [show l.length - 1 = n by omega]
    have hle : (1 : Int) ≤ l.length := by omega
    generalize (l.drop n == [10]) = V at q1 ⊢
    clear hn h
    go_enter Tryz.func86, Tryz.ntmps86
    go_wp2
    go_ret
    exact ⟨rfl, rfl⟩
  · obtain rfl : l = [] := by cases l; rfl; simp at h
    go_enter Tryz.func86, Tryz.ntmps86
    go_wp2
    go_ret
    exact ⟨rfl, rfl⟩
theorem slCutSuf_any (l : List Int) (w : World) (bl : B8 l) (hl : l.length ≤ maxLen) :
    Calls Tryz.prog 72 #[.string (strOfNums l), .string nlS] w fun e w' => e = .returned (.tuple #[.string (strOfNums (if (l.drop (l.length - 1) == [10]) = true then l.take (l.length - 1) else l)), .bool (l.drop (l.length - 1) == [10])]) ∧ w = w' := by
  have hC := fun w => hasSuf_any l w bl hl
  unfold maxLen at hl
  have z0 := strOfNums_size l
  by_cases h : (l.drop (l.length - 1) == [10]) = true
  · rw [h] at hC ⊢
    have hle : 1 ≤ l.length := by have := congrArg List.length (beq_iff_eq.1 h); rw [List.length_drop] at this; simp at this; omega
    have s1 : IntKind.i64.wrap ((l.length : Int) - 1) = ((l.length - 1 : Nat) : Int) := by rw [show (l.length : Int) - 1 = ((l.length - 1 : Nat) : Int) by omega]; exact IntWalk.i64_in _ (by omega)
    have p1 := fun (k : IntKind) (w : World) => run_sto (P := Tryz.prog) Tryz.underlying9 (l := l) (j := l.length - 1) (by omega) k (z := ((l.length - 1 : Nat) : Int)) rfl w
    rw [if_pos rfl]
    obtain ⟨n, hn⟩ : ∃ n, n = l.length - 1 := ⟨_, rfl⟩
    rw [← hn] at s1 p1 ⊢
    clear h hn
    go_enter Tryz.func72, Tryz.ntmps72
    go_wp2_with (go_at_call 86; refine (hC _).mono ?_; rintro e w' ⟨rfl, rfl⟩)
    go_wp2
    go_returns
    exact ⟨rfl, rfl⟩
  · rw [Bool.not_eq_true] at h
    rw [h] at hC ⊢
    rw [if_neg (by simp)]
    clear h
    go_enter Tryz.func72, Tryz.ntmps72
    go_wp2_with (go_at_call 86; refine (hC _).mono ?_; rintro e w' ⟨rfl, rfl⟩)
    go_wp2
    go_returns
    exact ⟨rfl, rfl⟩
theorem cutSuf_any (l : List Int) (w : World) (bl : B8 l) (hl : l.length ≤ maxLen) :
    Calls Tryz.prog 57 #[.string (strOfNums l), .string nlS] w fun e w' => e = .returned (.tuple #[.string (strOfNums (if (l.drop (l.length - 1) == [10]) = true then l.take (l.length - 1) else l)), .bool (l.drop (l.length - 1) == [10])]) ∧ w = w' := by
  have hC := fun w => slCutSuf_any l w bl hl
  generalize strOfNums (if (l.drop (l.length - 1) == [10]) = true then l.take (l.length - 1) else l) = S at hC ⊢
  generalize (l.drop (l.length - 1) == [10]) = V at hC ⊢
  go_enter Tryz.func57, Tryz.ntmps57
  go_wp2_with (go_at_call 72; refine (hC _).mono ?_; rintro e w' ⟨rfl, rfl⟩)
  go_wp2
  go_returns
  exact ⟨rfl, rfl⟩
end Go.Proofs.YtmdaianbhpppfaaGreatDoor
