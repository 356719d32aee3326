/- Reading a number: the program's numberIn. -/
import Derived.Test.YtmdaianbhpppfaaNumIn
namespace Go.Proofs.Ytmdaianbhpppfaa
open Go.RowKit

/-- The answer's cell is laid, and the iterator behind it. -/
def NumAt (w : World) (o : Obj) (s : ByteArray) (j : Nat) (wr : World) : Prop :=
  Below (w.heap.size + 1) (w.alloc o) wr ∧ wr.heap[w.heap.size + 1]? = some (.stringIter s j)
theorem NumAt.below {w : World} {o : Obj} {s : ByteArray} {j : Nat} {wr : World} (h : NumAt w o s j wr) : Below (w.alloc o).heap.size (w.alloc o) wr := by
  have : (w.alloc o).heap.size = w.heap.size + 1 := by simp
  rw [this]; exact h.1
theorem NumAt.size {w : World} {o : Obj} {s : ByteArray} {j : Nat} {wr : World} (h : NumAt w o s j wr) : w.heap.size + 1 < wr.heap.size := (Array.getElem?_eq_some_iff.1 h.2).1
theorem NumAt.on {w : World} {o : Obj} {s : ByteArray} {j : Nat} {wr w2 : World} (h : NumAt w o s j wr) (hb : Below wr.heap.size wr w2) : NumAt w o s j w2 :=
  ⟨h.1.trans (hb.mono (Nat.le_of_lt h.size)), (hb.block (w.heap.size + 1) h.size).trans h.2⟩
theorem NumAt.next {w : World} {o : Obj} {s : ByteArray} {j : Nat} {wr : World} (h : NumAt w o s j wr) (j' : Nat) : NumAt w o s j' (wr.iterAt (w.heap.size + 1) s j') :=
  ⟨Lib.below_iterAt h.1 (Nat.le_refl _) s j', Lib.iterAt_heap wr (w.heap.size + 1) s j j' h.2⟩
theorem NumAt.alloc {w : World} {o : Obj} {s : ByteArray} {j : Nat} {wr : World} (h : NumAt w o s j wr) (o2 : Obj) : NumAt w o s j (wr.alloc o2) := h.on ((Below.refl _ _).alloc (Nat.le_refl _) _)

theorem NumAt.facts {w : World} {s : ByteArray} {j : Nat} {wr : World} {t : TypeId} (h : NumAt w (Obj.cells #[.int .i64 0, .int .i64 0] t) s j wr) :
    wr.cell? ⟨w.heap.size, 0, none⟩ = some (.int .i64 0) ∧ wr.cell? ⟨w.heap.size, 1, none⟩ = some (.int .i64 0) ∧ wr.frozen? ⟨w.heap.size, 0, none⟩ = false ∧ wr.frozen? ⟨w.heap.size, 1, none⟩ = false ∧ Below w.heap.size w wr :=
  ⟨res_cell h.below 0, res_cell h.below 1, res_frozen h.below 0, res_frozen h.below 1, below_alloc h.below⟩

set_option maxRecDepth 100000 in
set_option maxHeartbeats 1600000 in
theorem numberIn_any (base : Int) (l : List Int) (w : World) (hb : base = 10 ∨ base = 16) (b8 : B8 l) (hl : l.length ≤ maxLen) :
    Calls Try.prog 12 #[.int .i64 base, .int .i64 999999, .string (strOfNums l)] w fun e w' => e = .returned (intV (inC (nmV base l)) (inV (nmV base l))) ∧ Below w.heap.size w w' := by
  unfold maxLen at hl
  have z0 := strOfNums_size l
  by_cases a : l.length < 1
  · obtain rfl : l = [] := by cases l; rfl; simp at a
    rw [nmV_short (.inl a)]
    have n0 : (strOfNums []).toList = [] := by rw [ByteArray.toList_eq]; rfl
    go_enter Try.func12, Try.ntmps12
    go_wp2
    go_returns
    exact ⟨rfl, by go_grown⟩
  · have hne : l ≠ [] := fun h => by rw [h] at a; simp at a
    have q0 : (strOfNums l).toList.isEmpty = false := by rw [ByteArray.toList_eq]; cases l; exact absurd rfl hne; rfl
    have q1 := seq_lit b8 (m := [48]) (fun x hx => by simp at hx; omega) (u := [48]) rfl
    have hG : l.getD 0 0 = l[0] := by simp [List.getD, show 0 < l.length by omega]
    have p1 := fun (k : IntKind) (w : World) => run_sget (P := Try.prog) Try.underlying9 b8 (i := 0) (by omega) k (z := 0) rfl w
    by_cases c : l[0] = 48 ∧ 1 < l.length
    · rw [nmV_short (.inr (by rw [hG]; exact c))]
      obtain ⟨c0, c1⟩ := c
      rw [c0] at p1
      have q2 : (l == [48]) = false := beq_eq_false_iff_ne.2 (fun h => by rw [h] at c1; simp at c1)
      rw [q2] at q1
      go_enter Try.func12, Try.ntmps12
      go_wp2
      go_returns
      exact ⟨rfl, by go_grown⟩
    · have HV := hide (fun h => nmV_good (base := base) (l := l) (by rintro (h | h); exact a h; exact c ⟨by rw [← hG]; exact h.1, h.2⟩) h)
      obtain ⟨o, ho⟩ : ∃ o, o = Obj.cells #[.int .i64 0, .int .i64 0] 23 := ⟨_, rfl⟩
      go_enter Try.func12, Try.ntmps12
      have c' : l[0] = 48 → ¬ 1 < l.length := fun h h' => c ⟨h, h'⟩
      clear c
      have s7 : l[0] ≠ 48 ∨ l[0] = 48 ∧ (l == [48]) = true := by
        by_cases h : l[0] = 48
        · refine .inr ⟨h, beq_iff_eq.2 ?_⟩
          have := c' h
          obtain ⟨x, rfl⟩ := List.length_eq_one_iff.1 (show l.length = 1 by omega)
          simp only [List.getElem_cons_zero] at h
          rw [h]
        · exact .inl h
      rcases s7 with s7 | ⟨s7, s8⟩
      all_goals
        try rw [s7] at p1
        try rw [s8] at q1
        go_wp2
        clear p1 c' s7 q0 q1
        rw [← ho]
        go_loopw [7, 9, 10] (fun v _ _ wr => ∃ j : Nat, j ≤ l.length ∧ v = .int .i64 (numV base 0 (l.take j)) ∧ 0 ≤ numV base 0 (l.take j) ∧ numV base 0 (l.take j) ≤ 999999 ∧ NumAt w o (strOfNums l) j wr) (fun _ _ _ wr => (strOfNums l).size + 1 - wr.iterPos (w.heap.size + 1))
        case atStart =>
          refine ⟨0, by omega, rfl, by simp [numV], by simp [numV], ?_, ?_⟩
          · rw [ho]; exact ((Below.refl _ _).alloc (by simp) _)
          · have := World.iter_heap (w.alloc o) (strOfNums l) 0
            simpa using this
        case round =>
          obtain ⟨j, hj, rfl, hn0, hn9, hat⟩ := hrel
          have hsz := hat.size
          by_cases hp : j < l.length
          · obtain ⟨hg0, hg1⟩ := b8.get j hp
            have hq : j < (strOfNums l).size := by omega
            have hgt := strS_get b8 j hq hp
            have hT := numV_take (show (0 : Int) ≤ base by omega) hp hn0
            have hat2 := hat.next (j + 1)
            by_cases h0 : dgB base l[j] < 0
            · rw [if_pos h0] at hT
              have hN : nmV base l = -1 := by
                have := numV_bad (show (0 : Int) ≤ base by omega) (l.drop (j + 1)) (l.take (j + 1)) (by rw [hT]; omega)
                rw [List.take_append_drop] at this
                exact nmV_bad (.inl (by omega))
              have HN := hide hN
              clear hN
              have hX : ∃ (r d : Int) (j2 : Nat), (d < 0 ∨ base - 1 < d) ∧ (∀ ty, (Instr.next (.pointer (some ⟨w.heap.size + 1, 0, none⟩)) true ty).run Try.prog wr = .ok (.tuple #[.bool true, .int .i64 j, .int .i32 r]) (wr.iterAt (w.heap.size + 1) (strOfNums l) j2)) ∧
                  ∀ w, Calls Try.prog 15 #[.string sgS, .int .i32 r] w fun e w' => e = .returned (.int .i64 d) ∧ Below w.heap.size w w' := by
                by_cases ha : l[j] < 128
                · obtain ⟨n, hn⟩ : ∃ n : Nat, l[j] = n := ⟨l[j].toNat, by omega⟩
                  refine ⟨n, dgV n, j + 1, ?_, fun ty => ?_, fun w => (signs_low n (by omega) w).mono (fun e w' ⟨h1, h2⟩ => ⟨h1, h2 ▸ Below.refl _ _⟩)⟩
                  · rw [hn] at h0
                    unfold dgB at h0
                    by_cases hb2 : base ≤ dgV n
                    · exact .inr (by omega)
                    · rw [if_neg hb2] at h0; exact .inl h0
                  · have := Lib.run_next_ascii_at (P := Try.prog) wr (w.heap.size + 1) (strOfNums l) j ty hat.2 hq (by omega)
                    rw [this, hgt, hn]
                · refine ⟨((Utf8.decode (strOfNums l) j).1 : Int), -1, j + (Utf8.decode (strOfNums l) j).2, .inl (by omega), fun ty => Lib.run_next_any_at wr (w.heap.size + 1) (strOfNums l) j ty hat.2 hq, fun w => signs_high _ ?_ w⟩
                  have := (decode_high (strOfNums l) j hq (by omega)).1
                  omega
              obtain ⟨r, d, j2, hd, hnx, hC⟩ := hX
              have hat3 := hat.next j2
              generalize wr.iterAt (w.heap.size + 1) (strOfNums l) j2 = W2 at hnx hat3
              have s1 : IntKind.i64.wrap (base - 1) = base - 1 := IntWalk.i64_in _ (by omega)
              rw [ho] at hat3
              clear HV ho hat hat2 hT hgt hn0 hn9 hg0 hg1 hsz h0
              go_wp2_with (go_at_call 15; refine (hC _).mono ?_; rintro e W3 ⟨rfl, hb3⟩)
              have hat4 := hat3.on hb3
              go_wp2_with fail
              refine (allWithin_not _ _ _ _ _ _ (by simp [go_sem]) hd).mono ?_
              rintro e W4 ⟨rfl, rfl⟩
              obtain ⟨r0, r1, r2, r3, hbw⟩ := (hat4.alloc (Obj.cells #[.int .i64 d] 2)).facts
              clear hat3 hat4 hb3 hC hnx
              go_wp2
              refine bodyPost_ret (v := intV 5 0) (by simp [results, Try.results12, go_sem, r0, r1]) rfl ?_
              exact ⟨by rw [HN.out]; rfl, (hbw.setCell (Nat.le_refl _) _).setCell (Nat.le_refl _) _⟩
            · rw [if_neg h0] at hT
              have hD := dgB_lt base l[j]
              have ha : l[j] < 128 := by
                unfold dgB at h0
                unfold dgV at h0
                by_cases x1 : 48 ≤ l[j] ∧ l[j] ≤ 57
                · omega
                · rw [if_neg x1] at h0
                  by_cases x2 : 97 ≤ l[j] ∧ l[j] ≤ 102
                  · omega
                  · rw [if_neg x2] at h0
                    split at h0 <;> omega
              obtain ⟨n, hn⟩ : ∃ n : Nat, l[j] = n := ⟨l[j].toNat, by omega⟩
              have hdv : dgV n = dgB base l[j] := by
                rw [hn] at h0 ⊢
                unfold dgB at h0 ⊢
                by_cases hb2 : base ≤ dgV n
                · rw [if_pos hb2] at h0; omega
                · rw [if_neg hb2]
              have hC := fun w => signs_low n (by omega) w
              have hnx := fun ty => Lib.run_next_ascii_at (P := Try.prog) wr (w.heap.size + 1) (strOfNums l) j ty hat.2 hq (by omega)
              rw [hgt, hn] at hnx
              rw [hdv] at hC
              generalize dgB base l[j] = D at hT hD hC h0
              generalize wr.iterAt (w.heap.size + 1) (strOfNums l) (j + 1) = W2 at hnx hat2
              have h3 : numV base 0 (l.take j) * base ≤ numV base 0 (l.take j) * 16 := Int.mul_le_mul_of_nonneg_left (by omega) hn0
              have h4 : 0 ≤ numV base 0 (l.take j) * base := Int.mul_nonneg hn0 (by omega)
              have h5 := hD.2 (by omega)
              have hO := hide (fun h => nmV_over (base := base) (l := l) (by omega) (j := j + 1) h)
              have s1 : IntKind.i64.wrap (base - 1) = base - 1 := IntWalk.i64_in _ (by omega)
              have s2 : IntKind.i64.wrap (numV base 0 (l.take j) * base) = numV base 0 (l.take j) * base := IntWalk.i64_in _ (by omega)
              have s3 : IntKind.i64.wrap (numV base 0 (l.take j) * base + D) = numV base 0 (l.take j) * base + D := IntWalk.i64_in _ (by omega)
              rw [ho] at hat2
              have HT := hide hT
              have hit := hide hat.2
              have hin : 0 ≤ D ∧ D ≤ base - 1 := by omega
              generalize hV : numV base 0 (l.take j) = V at hnx s2 s3 HT h3 h4 hn0 hn9 ⊢
              clear HV hat hT hgt hg0 hg1 hsz h0 ha hn hdv hD
              go_wp2_with (go_at_call 15; refine (hC _).mono ?_; rintro e W3 ⟨rfl, rfl⟩)
              go_wp2_with fail
              refine (allWithin_one _ _ _ _ _ _ (by simp [go_sem]) hin).mono ?_
              rintro e W4 ⟨rfl, rfl⟩
              have hat5 := hat2.alloc (Obj.cells #[.int .i64 D] 2)
              by_cases hov : 999999 < V * base + D
              · have hN := hide (hO.out (by rw [HT.out]; exact hov))
                obtain ⟨r0, r1, r2, r3, hbw⟩ := hat5.facts
                clear hat2 hat5 hC hnx ho
                go_wp2
                refine bodyPost_ret (v := intV 5 0) (by simp [results, Try.results12, go_sem, r0, r1]) rfl ?_
                exact ⟨by rw [hN.out]; rfl, (hbw.setCell (Nat.le_refl _) _).setCell (Nat.le_refl _) _⟩
              · generalize W2.alloc (Obj.cells #[.int .i64 D] 2) = W5 at hat5 ⊢
                go_wp2
                go_roundw
                case rel => exact ⟨j + 1, by omega, by rw [HT.out], by rw [HT.out]; omega, by rw [HT.out]; omega, by rw [ho]; exact hat5⟩
                case measure => simp only [World.iterPos, hit.out, hat5.2]; omega
          · have hnx : ∀ ty, (Instr.next (.pointer (some ⟨w.heap.size + 1, 0, none⟩)) true ty).run Try.prog wr = _ := fun ty => Lib.run_next_end_at wr (w.heap.size + 1) (strOfNums l) j ty hat.2 (by omega)
            have e1 : l.take j = l := List.take_of_length_le (by omega)
            rw [e1] at hn0 hn9 ⊢
            have hv := HV.out (by omega)
            rw [ho] at hat
            obtain ⟨r0, r1, r2, r3, hbw⟩ := hat.facts
            clear ho HV hat
            go_wp2
            refine bodyPost_ret (v := intV 0 (numV base 0 l)) (by simp [results, Try.results12, go_sem, r0, r1]) rfl ?_
            have i0 : ¬ numV base 0 l < 0 := by omega
            exact ⟨by rw [hv]; unfold inC inV; rw [if_neg i0, if_neg i0], (hbw.setCell (Nat.le_refl _) _).setCell (Nat.le_refl _) _⟩
end Go.Proofs.Ytmdaianbhpppfaa
