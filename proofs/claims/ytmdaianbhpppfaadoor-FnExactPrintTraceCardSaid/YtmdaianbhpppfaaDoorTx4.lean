/- Numbers as texts: HexOf, an event's text, of the document. -/
import Derived.Test.YtmdaianbhpppfaaDoorTx3
import Derived.BigQuiet
import Derived.Deep.QuietTactic
namespace Go.Proofs.YtmdaianbhpppfaaDoor
open Go.RowKit

def marksL : List Int := [48, 49, 50, 51, 52, 53, 54, 55, 56, 57, 97, 98, 99, 100, 101, 102]
theorem marks_cut : ∀ n, n < 16 → (marksL.drop n).take (n + 1 - n) = [dg n] := by decide
/-- One sign of the sixteen. -/
theorem run_mark {P : Program} {t : TypeId} (ht : P.underlying t = some .string) {n : Nat} (h : n < 16) {z z' : Int} (hz : z = n) (hz' : z' = (n : Int) + 1) (k k' : IntKind) (w : World) :
    (Instr.slice t (.string { data := #[48, 49, 50, 51, 52, 53, 54, 55, 56, 57, 97, 98, 99, 100, 101, 102] }) (some (.int k z)) (some (.int k' z')) none).run P w = .ok (.string (strOfNums [dg n])) w := by
  have := run_scut (P := P) ht (l := marksL) (i := n) (j := n + 1) (by omega) (by show n + 1 ≤ 16; omega) k k' (z := z) (z' := z') hz (by rw [hz']; rfl) w
  rw [marks_cut n h] at this
  exact this

set_option maxRecDepth 100000 in
set_option maxHeartbeats 800000 in
theorem l5Hex_any : ∀ (f n : Nat) (w : World), n < f → n < 16 ^ 15 →
    Calls Tryd.prog 24 #[.int .i64 n] w fun e w' => e = .returned (.string (strOfNums (digL 16 n))) ∧ ∃ m, w' = w.drewN m
  | 0, n, w, h, _ => by omega
  | f + 1, n, w, h, h' => by
    by_cases hn : n < 16
    · rw [digL_few hn]
      have s0 : IntKind.i64.wrap ((n : Int) + 1) = (n : Int) + 1 := IntWalk.i64_in _ (by omega)
      have p1 := fun (k k' : IntKind) (w : World) => run_mark (P := Tryd.prog) Tryd.underlying9 hn rfl rfl k k' w
      go_enter Tryd.func24, Tryd.ntmps24
      go_wp2
      go_ret
      exact ⟨rfl, 0, rfl⟩
    · have hd : n / 16 < n := Nat.div_lt_self (by omega) (by omega)
      have hm := Nat.mod_lt n (show 0 < 16 by omega)
      have IH := fun w => l5Hex_any f (n / 16) w (by omega) (by omega)
      have e16 : ((n / 16 : Nat) : Int) = (n : Int) / 16 := by omega
      rw [e16] at IH
      have hl := digL_len (b := 16) (by omega) 14 (n / 16) (by omega)
      have HE := hide (digL_more (by omega) hn)
      have p1 := fun (k k' : IntKind) (w : World) => run_mark (P := Tryd.prog) Tryd.underlying9 hm (z := (n : Int) % 16) (z' := (n : Int) % 16 + 1) rfl rfl k k' w
      have p2 := fun (w : World) => run_sadd (P := Tryd.prog) (l := digL 16 (n / 16)) (m := [dg (n % 16)]) (by simp only [List.length_cons, List.length_nil]; omega) w
      rw [← HE.out] at p2
      generalize digL 16 (n / 16) = D at IH p2
      generalize digL 16 n = E at p2 ⊢
      have s1 : IntKind.i64.wrap ((n : Int) / 16) = (n : Int) / 16 := IntWalk.i64_in _ (by omega)
      have s0 : IntKind.i64.wrap ((n : Int) % 16 + 1) = (n : Int) % 16 + 1 := IntWalk.i64_in _ (by omega)
      go_enter Tryd.func24, Tryd.ntmps24
      go_wp2
      go_quiet ((go_at_call 24; exact Calls.quiet_of (IH _)))
      go_wp2
      go_ret
      exact ⟨rfl, _, rfl⟩
end Go.Proofs.YtmdaianbhpppfaaDoor
