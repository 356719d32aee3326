/- Numbers as texts: ReadHex, NumberOf of the document. -/
import Derived.Test.YtmdaianbhpppfaaDoorTx2
import Derived.Test.YtmdaianbhpppfaaDoorTxMath2
import Derived.ProofKit
import Derived.OpenShut
import Derived.Handy
import Derived.Outline
import Derived.WalkLawsBesides
namespace Go.Proofs.YtmdaianbhpppfaaDoor
open Go.RowKit

theorem numL_top {base : Int} {most : Nat} {l : List Int} (hb : 0 ≤ base) (hb16 : base ≤ 16) (hm : most ≤ 6) : -1 ≤ numL base most l ∧ numL base most l < 16777216 := by
  unfold numL
  split
  · omega
  · rename_i h
    by_cases h0 : numV base 0 l < 0
    · rw [numV_neg hb l 0 (by omega) h0]; omega
    · have e1 : l.take l.length = l := List.take_length
      have hlt := numV_lt hb hb16 (l := l) l.length (by omega) (by rw [e1]; omega)
      rw [e1] at hlt
      have hpow : (16 : Int) ^ l.length ≤ 16 ^ 6 := by
        have := Nat.pow_le_pow_right (n := 16) (by omega) (show l.length ≤ 6 by omega)
        exact_mod_cast this
      omega

set_option maxRecDepth 100000 in
set_option maxHeartbeats 800000 in
theorem l5ReadHex_any (l : List Int) (w : World) (b8 : B8 l) (hl : l.length ≤ maxLen) :
    Calls Tryd.prog 64 #[.string (strOfNums l)] w fun e w' => e = .returned (.int .i64 (hexV l)) ∧ w = w' := by
  have hl' := hl
  unfold maxLen at hl'
  have z0 := strOfNums_size l
  by_cases a : l.length < 3
  · have e1 : hexV l = -1 := by unfold hexV; rw [if_pos (.inl a)]
    rw [e1]
    go_enter Tryd.func64, Tryd.ntmps64
    go_wp2
    go_ret
    exact ⟨rfl, rfl⟩
  · have p1 := fun (k : IntKind) (w : World) => run_sto (P := Tryd.prog) Tryd.underlying9 (l := l) (j := 2) (by omega) k (z := 2) rfl w
    have q1 : ((strOfNums (l.take 2)).toList == ([48, 120] : List UInt8)) = (l.take 2 == [48, 120]) := seq_lit (b8.take 2) (m := [48, 120]) (fun x hx => by simp at hx; omega) rfl
    by_cases b : l.take 2 = [48, 120]
    · rw [beq_iff_eq.2 b] at q1
      have p2 := fun (k : IntKind) (w : World) => run_sfrom (P := Tryd.prog) Tryd.underlying9 (l := l) (i := 2) (by omega) k (z := 2) rfl w
      have hC : ∀ w, Calls Tryd.prog 65 #[.string (strOfNums (l.drop 2)), .int .i64 16, .int .i64 5] w fun e w' => e = .returned (.int .i64 (numL 16 5 (l.drop 2))) ∧ w = w' := fun w => l5Number_any (l.drop 2) 16 5 w (by omega) (by omega) (by omega) (b8.drop 2) (by simp only [List.length_drop, maxLen]; omega)
      have e1 : hexV l = if 999999 < numL 16 5 (l.drop 2) then -1 else numL 16 5 (l.drop 2) := by unfold hexV; rw [if_neg (by rintro (h | h); exact a h; exact h b)]
      generalize numL 16 5 (l.drop 2) = V at e1 hC
      clear b
      go_enter Tryd.func64, Tryd.ntmps64
      by_cases h9 : 999999 < V
      · rw [e1, if_pos h9]
        go_wp2_with fail
        refine (hC _).mono ?_
        rintro e w2 ⟨rfl, rfl⟩
        go_wp2
        go_ret
        exact ⟨rfl, rfl⟩
      · rw [e1, if_neg h9]
        go_wp2_with fail
        refine (hC _).mono ?_
        rintro e w2 ⟨rfl, rfl⟩
        go_wp2
        go_ret
        exact ⟨rfl, rfl⟩
    · rw [beq_eq_false_iff_ne.2 b] at q1
      have e1 : hexV l = -1 := by unfold hexV; rw [if_pos (.inr b)]
      rw [e1]
      go_enter Tryd.func64, Tryd.ntmps64
      go_wp2
      go_ret
      exact ⟨rfl, rfl⟩

/-- An answer with a number: what is read, or the code 5. -/
def inC (n : Int) : Int := if n < 0 then 5 else 0
def inV (n : Int) : Int := if n < 0 then 0 else n
abbrev intV (c n : Int) : Value := .agg #[.int .i64 c, .int .i64 n]
end Go.Proofs.YtmdaianbhpppfaaDoor
