/- Numbers as texts: decimal digits. -/
import Derived.Test.YtmdaianbhpppfaaDoorTx4
import Derived.Deep.RegionWith
import Derived.IntWalk
namespace Go.Proofs.YtmdaianbhpppfaaDoor
open Go.RowKit

theorem dg_few {n : Nat} (h : n < 10) : dg n = 48 + n := by unfold dg; rw [if_pos h]
set_option maxRecDepth 100000 in
set_option maxHeartbeats 1600000 in
theorem l1Digits_any : ∀ (f n : Nat) (w : World), n < f → n < 10 ^ 18 →
    Calls Tryd.prog 44 #[.int .i64 n] w fun e w' => e = .returned (.string (strOfNums (digL 10 n))) ∧ Below w.heap.size w w'
  | 0, n, w, h, _ => by omega
  | f + 1, n, w, h, h' => by
    by_cases hn : n < 10
    · rw [digL_few hn, dg_few hn]
      have s0 : IntKind.i64.wrap (48 + (n : Int)) = 48 + n := IntWalk.i64_in _ (by omega)
      have s1 : IntKind.u8.wrap (48 + (n : Int)) = 48 + n := IntWalk.u8_in _ (by omega)
      have p0 := fun W : World => run_sbyte (P := Tryd.prog) Tryd.underlying60 Tryd.underlying5 Tryd.underlying9 (ty := 5) (48 + (n : Int)) W _ (Below.refl _ _)
      go_enter Tryd.func44, Tryd.ntmps44
      go_wp2
      go_ret
      exact ⟨rfl, by go_grown⟩
    · have hd : n / 10 < n := Nat.div_lt_self (by omega) (by omega)
      have hm := Nat.mod_lt n (show 0 < 10 by omega)
      have IH := fun w => l1Digits_any f (n / 10) w (by omega) (by omega)
      have e10 : ((n / 10 : Nat) : Int) = (n : Int) / 10 := by omega
      rw [e10] at IH
      have hl := digL_len (b := 10) (by omega) 17 (n / 10) (by omega)
      have HE := hide (digL_more (b := 10) (by omega) hn)
      have ed : dg (n % 10) = 48 + (n : Int) % 10 := by rw [dg_few hm]; omega
      have p2 := fun (w : World) => run_sadd (P := Tryd.prog) (l := digL 10 (n / 10)) (m := [dg (n % 10)]) (by simp only [List.length_cons, List.length_nil]; omega) w
      rw [← HE.out, ed] at p2
      generalize digL 10 (n / 10) = D at IH p2
      generalize digL 10 n = E at p2 ⊢
      clear HE ed hl e10
      have s1 : IntKind.i64.wrap ((n : Int) / 10) = (n : Int) / 10 := IntWalk.i64_in _ (by omega)
      have s0 : IntKind.i64.wrap (48 + (n : Int) % 10) = 48 + (n : Int) % 10 := IntWalk.i64_in _ (by omega)
      have s2 : IntKind.u8.wrap (48 + (n : Int) % 10) = 48 + (n : Int) % 10 := IntWalk.u8_in _ (by omega)
      have t0 : (n : Int).tmod 10 = (n : Int) % 10 := Int.tmod_eq_emod_of_nonneg (by omega)
      have E0 := hide (fun W W' : World => run_sbyte (P := Tryd.prog) Tryd.underlying60 Tryd.underlying5 Tryd.underlying9 (ty := 5) (48 + (n : Int) % 10) W W')
      have p0 := fun W : World => E0.out W _ (Below.refl _ _)
      have p1 := fun W : World => E0.out W _ (Below.refl _ _).drew
      go_enter Tryd.func44, Tryd.ntmps44
      go_wp2
      go_region_with (go_at_call 44; refine (IH _).mono ?_; rintro e w1 ⟨rfl, hb⟩; first | (have q0 : (convert 60 9 (.slice (some ⟨w.heap.size, 0, none⟩) 1 1)).run Tryd.prog w1 = .ok (.string (strOfNums [48 + (n : Int) % 10])) w1 := E0.out w.drew w1 hb) | (have q0 : (convert 60 9 (.slice (some ⟨w.heap.size, 0, none⟩) 1 1)).run Tryd.prog w1 = .ok (.string (strOfNums [48 + (n : Int) % 10])) w1 := E0.out w w1 ((Below.refl _ _).drew.trans hb)) | skip)
      all_goals
        go_wp2
        go_ret
        refine ⟨rfl, ?_⟩
        first
          | exact ((Below.refl _ w).drew.trans hb).alloc hb.size _
          | exact (((Below.refl _ w).alloc (Nat.le_refl _) _).drew.trans (hb.mono (by simp)))
          | exact (((Below.refl _ w).drew.alloc (Nat.le_refl _) _).trans (hb.mono (by simp)))
end Go.Proofs.YtmdaianbhpppfaaDoor
