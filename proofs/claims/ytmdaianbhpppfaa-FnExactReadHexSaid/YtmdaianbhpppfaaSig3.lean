/- Where a rune stands among the signs of the digits: every rune. The library's own text is walked. -/
import Derived.Test.YtmdaianbhpppfaaSig2
import Derived.Scope
namespace Go.Proofs.Ytmdaianbhpppfaa
open Go.RowKit

set_option maxRecDepth 100000 in
set_option maxHeartbeats 1600000 in
theorem signs_one (m : Nat) (E : ByteArray) (c : UInt8) (r : Int) (w : World) (h : 128 ≤ r) (hr : r ≠ 65533) (hv : Utf8.valid r = true) (hc : 128 ≤ c.toNat) (hE : Utf8.encode r = E) (hm : m = 1 ∨ m = 2 ∨ m = 3) (hs : E.size = m + 1) (hx : ∃ h : m < E.size, E[m]'h = c) :
    Calls Try.prog 15 #[.string sgS, .int .i32 r] w fun e w' => e = .returned (.int .i64 (-1)) ∧ ∃ n, w' = w.drewN n := by
  obtain ⟨hl, hx⟩ := hx
  have hh : (0 : Int) ≤ r ∧ ¬ r < 128 := by omega
  obtain ⟨h0, h1⟩ := hh
  have p1 := fun (k : IntKind) (w : World) => ix_lit Try.underlying9 E m hl c hx k w
  have hv' := hide hv
  clear hx
  have hnn : Lib.indexByte (sgS.data.toList.drop (m + 1)) c.toNat.toUInt8 = -1 := by
    have e : c.toNat.toUInt8 = c := by simp
    rw [e]
    refine idx_no _ c (fun b hb e => ?_)
    have h1 : ∀ b ∈ sgS.data.toList, b.toNat < 128 := by decide
    have h2 := h1 b (List.mem_of_mem_drop hb)
    rw [e] at h2
    omega
  have p3 : ∀ (k : IntKind) (w : World), (Instr.slice 9 (.string sgS) (some (.int k ((m : Int) + 1))) none none).run Try.prog w = .ok (.string ⟨(sgS.data.toList.drop (m + 1)).toArray⟩) w := fun k w => by
    have h16 : sgS.size = 16 := rfl
    rw [run_slice_string_from_if w _ _ k _ Try.underlying9, if_pos (by rw [h16]; omega), show ((m : Int) + 1).toNat = m + 1 by omega, h16]
    rcases hm with rfl | rfl | rfl <;> rfl
  have p4 : ∃ x : Int, x ≠ c.toNat ∧ ∀ (k : IntKind) (w : World), (Instr.index 9 (.string sgS) (.int k m)).run Try.prog w = .ok (.int .u8 x) w := by
    obtain ⟨hq, ha⟩ := sgS_low m (by omega)
    exact ⟨(sgS[m]'hq).toNat, by omega, fun k w => ix_lit Try.underlying9 sgS m hq _ rfl k w⟩
  obtain ⟨x, hxc, p4⟩ := p4
  have hC := fun w => strIndexByte_any ⟨(sgS.data.toList.drop (m + 1)).toArray⟩ c.toNat w
  simp only [Int.toNat_natCast] at hC
  rw [hnn] at hC
  generalize (⟨(sgS.data.toList.drop (m + 1)).toArray⟩ : ByteArray) = D at p3 hC
  have hm3 : 1 ≤ m ∧ m ≤ 3 := by omega
  obtain ⟨m1, m3⟩ := hm3
  have hV := fun w => validRune_any r w
  rw [hv] at hV
  have s1 : IntKind.i64.wrap ((E.size : Nat) : Int) = m + 1 := by rw [hs]; exact IntWalk.i64_in _ (by omega)
  have s2 : IntKind.i64.wrap ((m : Int) + 1 - 1) = m := by rw [show (m : Int) + 1 - 1 = m by omega]; exact IntWalk.i64_in _ (by omega)
  have s3 : IntKind.i64.wrap ((m : Int) + 1) = (m : Int) + 1 := IntWalk.i64_in _ (by omega)
  have q0 : ((E.size : Nat) : Int) = m + 1 := by omega
  generalize (c.toNat : Int) = C at p1 hC hxc
  have hm16 : (m : Int) < 16 := by omega
  clear hs hl hv hnn hm
  go_enter Try.func15, Try.ntmps15
  go_wp2_with (go_at_call 20; refine (hV _).mono ?_; rintro e w' ⟨rfl, rfl⟩)
  go_wp2
  refine wp_scope_straight ?_
  go_wp2
  clear hE
  refine wp_loop_rounds 1 ?_
  rw [rounds_succ]
  go_wp2
  refine wp_scope_straight ?_
  go_wp2
  go_quiet (fail)
  go_wp2
  obtain ⟨W1, hW1⟩ : ∃ W1, W1 = w.drewN nq := ⟨_, rfl⟩
  rw [← hW1]
  have hW := hide hW1
  clear hW1
  go_quiet (first | (go_at_call 19; exact Calls.quiet_of_same ((hC _).mono (fun e w' h => ⟨h.1, h.2.symm⟩))))
  go_wp2
  simp only [Exit.noGoto, Exit.inBlock, Exit.then]
  go_ret
  exact ⟨rfl, _, by rw [hW.out, World.drewN_drewN]⟩
set_option maxRecDepth 100000 in
/-- Where a rune from 128 on stands: nowhere. -/
theorem signs_high (r : Int) (h : 128 ≤ r) (w : World) :
    Calls Try.prog 15 #[.string sgS, .int .i32 r] w fun e w' => e = .returned (.int .i64 (-1)) ∧ Below w.heap.size w w' := by
  by_cases hr : r = 65533
  · subst hr
    exact signs_bad w
  · by_cases hv : Utf8.valid r = true
    · have key : ∀ m E c, 128 ≤ c.toNat → Utf8.encode r = E → (m = 1 ∨ m = 2 ∨ m = 3) → E.size = m + 1 → (∃ h : m < E.size, E[m]'h = c) → Calls Try.prog 15 #[.string sgS, .int .i32 r] w fun e w' => e = .returned (.int .i64 (-1)) ∧ Below w.heap.size w w' := fun m E c hc hE hm hs hx =>
        (signs_one m E c r w h hr hv hc hE hm hs hx).mono (fun e w' ⟨h1, n, h2⟩ => ⟨h1, by rw [h2]; exact ⟨rfl, rfl, rfl, Nat.le_refl _, fun _ _ => rfl⟩⟩)
      obtain ⟨c, hc, ⟨a, hE⟩ | ⟨a, b, hE⟩ | ⟨a, b, d, hE⟩⟩ := enc_high r h hv
      · exact key 1 _ c hc hE (.inl rfl) rfl ⟨by show 1 < 2; omega, rfl⟩
      · exact key 2 _ c hc hE (.inr (.inl rfl)) rfl ⟨by show 2 < 3; omega, rfl⟩
      · exact key 3 _ c hc hE (.inr (.inr rfl)) rfl ⟨by show 3 < 4; omega, rfl⟩
    · have hv' : Utf8.valid r = false := by simpa using hv
      have hV := fun w => validRune_any r w
      rw [hv'] at hV
      have h1 : ¬ r < 128 := by omega
      have h0 : 0 ≤ r := by omega
      clear hv hv'
      go_enter Try.func15, Try.ntmps15
      go_wp2_with (go_at_call 20; refine (hV _).mono ?_; rintro e w' ⟨rfl, rfl⟩)
      go_ret
      exact ⟨rfl, Below.refl _ _⟩
end Go.Proofs.Ytmdaianbhpppfaa
