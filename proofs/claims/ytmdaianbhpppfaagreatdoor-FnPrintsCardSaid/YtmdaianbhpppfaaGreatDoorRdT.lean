/- The contracts of the program's readTrace and ParseTrace. -/
import Derived.Test.YtmdaianbhpppfaaGreatDoorAddL
import Derived.Test.YtmdaianbhpppfaaGreatDoorCutSf
import Derived.Test.YtmdaianbhpppfaaGreatDoorGPs
import Derived.Test.YtmdaianbhpppfaaGreatDoorGTrS
namespace Go.Proofs.YtmdaianbhpppfaaGreatDoor
open Go.RowKit

/-- What readTrace tells. -/
def RtPost (M : Option (List (List Ev))) (w : World) (e : Ending) (w' : World) : Prop :=
  (∃ t A c us, M = some t ∧ e = .returned (.tuple #[.slice A t.length c, .bool true]) ∧ OwnT w' w.heap.size (.slice A t.length c) t us ∧ Below w.heap.size w w') ∨
  (M = none ∧ (∃ v, e = .returned (.tuple #[v, .bool false])) ∧ Below w.heap.size w w')
theorem rdM_drop {t : List (List Ev)} {rest : List (List Int)} {k : Nat} (h : k < rest.length) : rdM t (rest.drop k) = (addM t (cutS 32 [] rest[k])).bind fun t' => rdM t' (rest.drop (k + 1)) := by
  rw [List.drop_eq_getElem_cons h]
  rfl

set_option maxRecDepth 100000 in
set_option maxHeartbeats 3200000 in
theorem readTrace_any (l : List Int) (w : World) (hM : ML w) (b8 : B8 l) (hl : l.length ≤ 2000) :
    Calls Tryz.prog 35 #[.string (strOfNums l)] w (RtPost (rdT l) w) := by
  have CS := hide (cutSuf_any l w b8 (by unfold maxLen; omega))
  by_cases hE : l.drop (l.length - 1) = [10]
  · rw [beq_iff_eq.2 hE, if_pos rfl] at CS
    have hR : rdT l = rdL ((cutS 10 [] (l.take (l.length - 1))).getD 0 []) ((cutS 10 [] (l.take (l.length - 1))).drop 1) := by unfold rdT; rw [if_pos hE]
    rw [hR]
    have bB := b8.take (l.length - 1)
    have hBl : (l.take (l.length - 1)).length ≤ 2000 := by rw [List.length_take]; omega
    generalize l.take (l.length - 1) = body at CS bB hBl ⊢
    clear hR hE b8 hl
    have SP0 := split_any body 10 w (by omega) (by omega) bB hM
    have hB8 := cutS_B8 10 body [] bB (fun x h => by simp at h)
    have hLen := cutS_len 10 body []
    have hCnt := cutS_count 10 body []
    obtain ⟨x, rest, hws⟩ : ∃ x rest, cutS 10 [] body = x :: rest := by
      cases h : cutS 10 [] body with
      | nil => exact absurd h (cutS_ne 10 body [])
      | cons x r => exact ⟨x, r, rfl⟩
    rw [hws] at SP0 hB8 hLen hCnt ⊢
    simp only [List.length_cons, List.length_nil, Nat.zero_add, List.getD_cons_zero, List.drop_succ_cons, List.drop_zero] at SP0 hLen hCnt ⊢
    have hx8 := hB8 x (List.mem_cons_self ..)
    have hxl := hLen x (List.mem_cons_self ..)
    have h8 : ∀ y ∈ rest, B8 y ∧ y.length ≤ 2000 := fun y hy => ⟨hB8 y (List.mem_cons_of_mem _ hy), by have := hLen y (List.mem_cons_of_mem _ hy); omega⟩
    have hr4 : rest.length ≤ 2000 := by omega
    have SP : Calls Tryz.prog 58 #[.string (strOfNums body), .string { data := #[10] }] w fun e w' => e = .returned (.slice (some ⟨w.heap.size, 0, none⟩) (rest.length + 1) (rest.length + 1)) ∧ w' = w.alloc (.cells (sts (x :: rest)).toArray 9) := SP0
    have hRd := RdS.new w (x :: rest) 9
    obtain ⟨W, hW⟩ : ∃ W, W = w.alloc (.cells (sts (x :: rest)).toArray 9) := ⟨_, rfl⟩
    have zW : W.heap.size = w.heap.size + 1 := by rw [hW]; simp
    have bW : Below w.heap.size w W := by rw [hW]; exact (Below.refl _ _).alloc (Nat.le_refl _) _
    rw [← hW] at SP hRd
    have c0 : W.cell? ⟨w.heap.size, 0, none⟩ = some (.string (strOfNums x)) := by
      obtain ⟨b, off, e, _, h⟩ := hRd.get (i := 0) (by simp)
      cases e
      exact h
    have hRest : RdS W W.heap.size (cutW (some ⟨w.heap.size, 0, none⟩) 1 (rest.length + 1)) rest := by
      have := hRd.cut (n := 1) (c := rest.length + 1) (by simp) (by simp)
      rw [zW]
      exact this
    have CUT : ∀ W, (Instr.slice 61 (.slice (some ⟨w.heap.size, 0, none⟩) (rest.length + 1) (rest.length + 1)) (some (.int .i64 1)) none none).run Tryz.prog W = .ok (.slice (cutW (some ⟨w.heap.size, 0, none⟩) 1 (rest.length + 1)) rest.length rest.length) W := fun W => run_cutS (some ⟨w.heap.size, 0, none⟩) (rest.length + 1) 1 (rest.length + 1) 1 W rfl (by omega)
    generalize cutW (some ⟨w.heap.size, 0, none⟩) 1 (rest.length + 1) = A2 at hRest CUT
    have z1 : (0 : Int) < (rest.length : Int) + 1 := by omega
    have CP0 := cutPre_any x trW W hx8 (fun y hy => by unfold trW at hy; simp at hy; omega) (by unfold maxLen; omega) (by unfold trW maxLen; simp)
    have hx4 : (x.drop 6).length ≤ 2000 := by rw [List.length_drop]; omega
    have hx48 := hx8.drop 6
    have HB := hide bW
    have MLW := hide (hM.below bW)
    clear SP0 hB8 hLen hCnt hws hRd hW hM bB hBl
    by_cases hT : x.take 6 = trW
    · have hR : rdL x rest = (rdM [] rest).bind fun t => if numL 10 6 (x.drop 6) = t.length ∧ trF t = 0 then some t else none := by unfold rdL; rw [if_pos hT]
      have CP : Calls Tryz.prog 38 #[.string (strOfNums x), .string { data := #[116, 114, 97, 99, 101, 32] }] W fun e w' => e = .returned (.tuple #[.string (strOfNums (x.drop 6)), .bool true]) ∧ W = w' := by
        have e1 : (x.take trW.length == trW) = true := beq_iff_eq.2 hT
        rw [e1, if_pos rfl] at CP0
        exact CP0
      rw [hR]
      have NO := hide (fun w => NumberOf_any (x.drop 6) w hx48 (by unfold maxLen; omega))
      obtain ⟨n1, n2⟩ := numL_top (base := 10) (most := 6) (l := x.drop 6) (by omega) (by omega) (by omega)
      generalize numL 10 6 (x.drop 6) = n at NO n1 n2 ⊢
      generalize x.drop 6 = cnt at CP NO
      clear CP0 hT hR hx8 hx48 hxl hx4
      obtain ⟨R, hRR⟩ : ∃ R, R = rdM [] rest := ⟨_, rfl⟩
      have HRR := hide hRR
      rw [← hRR]
      clear hRR
      obtain ⟨FN, hFN⟩ : ∃ F, F = (R.bind fun t => if n = t.length ∧ trF t = 0 then some t else none) := ⟨_, rfl⟩
      have HFN := hide hFN
      rw [← hFN]
      clear hFN
      have hoff : ∀ {B : Nat} {W' : World}, OwnT W' W.heap.size (.slice none 0 0) [] [] := fun {B W'} => ⟨World.ownsRow_nil _ _ _ _, fun i hi => by simp at hi, fun i j u u' _ hu => by simp at hu⟩
      go_enter Tryz.func35, Tryz.ntmps35
      go_wp2_with fail
      refine CS.out.mono ?_
      rintro e w ⟨rfl, rfl⟩
      go_wp2_with fail
      refine SP.mono ?_
      rintro e W ⟨rfl, rfl⟩
      go_wp2_with fail
      refine CP.mono ?_
      rintro e W ⟨rfl, rfl⟩
      clear CS SP CP c0
      go_wp2
      go_loopw [9, 11, 12, 13, 38] (fun v _ _ _ i wr => ∃ (k : Nat) (t : List (List Ev)) (A : Option Addr) (c : Nat) (us : List Value), k ≤ rest.length ∧ i = .int .i64 k ∧ v = .slice A t.length c ∧ OwnT wr W.heap.size (.slice A t.length c) t us ∧ Below W.heap.size W wr ∧ t.length ≤ k ∧ (∀ l ∈ t, l.length ≤ k) ∧ Hid (rdM t (rest.drop k) = R)) (fun _ _ _ _ i _ => rest.length - (intOf i).toNat)
      case atStart => exact ⟨0, [], none, 0, [], Nat.zero_le _, rfl, rfl, hoff (B := 0), Below.refl _ _, Nat.zero_le _, fun l hl => by simp at hl, hide (by rw [HRR.out]; rfl)⟩
      case round =>
        obtain ⟨k, t, A, c, us, hk, rfl, rfl, ho, hb, ht, hall, HD⟩ := hrel
        have zb := hb.size
        by_cases hlt : k < rest.length
        · obtain ⟨b, off, rfl, hbb, hc0⟩ := (hRest.below hb).get hlt
          obtain ⟨hy8, hyl⟩ := h8 _ (List.getElem_mem hlt)
          have AL := hide (addLine_any W.heap.size t A c us rest[k] wr (MLW.out.below (hb.mono (Nat.le_refl _))) zb (by omega) (fun l hl => by have := hall l hl; omega) ho hy8 hyl)
          have HN := hide (rdM_drop (t := t) hlt)
          have HF := hide (fun t' (h : addM t (cutS 32 [] rest[k]) = some t') => addM_few (t := t) (t' := t') (ws := cutS 32 [] rest[k]) h ht hall)
          obtain ⟨M, hMM⟩ : ∃ M, M = addM t (cutS 32 [] rest[k]) := ⟨_, rfl⟩
          rw [← hMM] at AL HN HF
          unfold AddPost at AL
          generalize rest[k] = y at AL hc0
          clear hy8 hyl hMM
          go_wp2_with fail
          refine AL.out.mono ?_
          rintro e w2 (⟨t', A', c', us', h1, rfl, h3, h4⟩ | ⟨h1, rfl, h4⟩)
          · have hb2 := hb.trans h4
            have hfew := HF.out t' h1
            rw [h1] at HN
            have HD2 := hide (show rdM t' (rest.drop (k + 1)) = R by rw [← HD.out, HN.out]; rfl)
            have HFW := hide hfew
            clear HN HD hfew h4 hb ho AL HF
            go_wp2
            go_roundw
            case rel => exact ⟨k + 1, t', A', c', us', by omega, by go_num, rfl, h3, hb2, HFW.out.1, HFW.out.2, HD2⟩
            case measure => simp [intOf]; omega
          · have hb2 := hb.trans h4
            rw [h1] at HN
            have HR := hide (show R = none by rw [← HD.out, HN.out]; rfl)
            clear HN HD h4 hb ho AL HF
            go_wp2
            go_returns
            exact .inr ⟨by rw [HFN.out, HR.out]; rfl, ⟨_, rfl⟩, HB.out.trans (hb2.mono HB.out.size)⟩
        · have HR := hide (show R = some t by rw [← HD.out, List.drop_eq_nil_of_le (by omega)]; rfl)
          have HALL := hide hall
          clear HD hall
          have HBW := hide HB.out.size
          have hbw := HB.out.trans (hb.mono HB.out.size)
          have TF := hide (fun W' (h : RdT W' W'.heap.size A t) => implTrF_any t A c W' (by unfold maxLen; omega) h)
          by_cases hz : n < 0
          · have e1 : inC n = 5 := by unfold inC; rw [if_pos hz]
            have e2 : inV n = 0 := by unfold inV; rw [if_pos hz]
            rw [e1, e2] at NO
            clear e1 e2
            have HX := hide (show FN = none by
              rw [HFN.out, HR.out, Option.bind_some, if_neg (fun h => by have := h.1; omega)])
            go_wp2_with fail
            refine (NO.out _).mono ?_
            rintro e w2 ⟨rfl, b2⟩
            have hbb := (hbw.trans (b2.mono hbw.size)).alloc (by have := b2.size; have := hbw.size; omega) (.cells #[.int .i64 5, .int .i64 0] 36)
            clear b2
            go_wp2
            go_returns
            exact .inr ⟨HX.out, ⟨_, rfl⟩, hbb⟩
          · have e1 : inC n = 0 := by unfold inC; rw [if_neg hz]
            have e2 : inV n = n := by unfold inV; rw [if_neg hz]
            rw [e1, e2] at NO
            clear e1 e2
            by_cases heq : n = t.length
            · have q1 : (n == (t.length : Int)) = true := beq_iff_eq.2 heq
              have HX := hide (show FN = if trF t = 0 then some t else none by
                rw [HFN.out, HR.out, Option.bind_some]
                by_cases h0 : trF t = 0
                · rw [if_pos ⟨heq, h0⟩, if_pos h0]
                · rw [if_neg (fun h => h0 h.2), if_neg h0])
              clear heq hz
              obtain ⟨F, hF⟩ : ∃ F, F = trF t := ⟨_, rfl⟩
              rw [← hF] at TF HX
              clear hF
              by_cases h0 : F = 0
              · rw [if_pos h0] at HX
                subst h0
                go_wp2_with fail
                refine (NO.out _).mono ?_
                rintro e w2 ⟨rfl, b2⟩
                have hbb := (hbw.trans (b2.mono hbw.size)).alloc (by have := b2.size; have := hbw.size; omega) (.cells #[.int .i64 0, .int .i64 n] 36)
                have ho2 := (ho.below b2).alloc (.cells #[.int .i64 0, .int .i64 n] 36)
                have kq := Bk.new w2 #[.int .i64 0, .int .i64 n] 36
                go_wp2_with fail
                generalize w2.alloc (Obj.cells #[.int .i64 0, .int .i64 n] 36) = W3 at hbb ho2 kq ⊢
                refine (TF.out W3 ho2.rd).mono ?_
                rintro e w4 ⟨rfl, b4⟩
                have ho4 := (ho2.below b4).mono HBW.out
                have hb4 := hbb.trans (b4.mono hbb.size)
                clear b2 b4 kq ho2
                go_wp2
                go_returns
                exact .inl ⟨t, A, c, us, HX.out, rfl, ho4, hb4⟩
              · rw [if_neg h0] at HX
                have q2 : (F == 0) = false := beq_eq_false_iff_ne.2 h0
                clear h0
                go_wp2_with fail
                refine (NO.out _).mono ?_
                rintro e w2 ⟨rfl, b2⟩
                have hbb := (hbw.trans (b2.mono hbw.size)).alloc (by have := b2.size; have := hbw.size; omega) (.cells #[.int .i64 0, .int .i64 n] 36)
                have ho2 := (ho.below b2).alloc (.cells #[.int .i64 0, .int .i64 n] 36)
                have kq := Bk.new w2 #[.int .i64 0, .int .i64 n] 36
                go_wp2_with fail
                generalize w2.alloc (Obj.cells #[.int .i64 0, .int .i64 n] 36) = W3 at hbb ho2 kq ⊢
                refine (TF.out W3 ho2.rd).mono ?_
                rintro e w4 ⟨rfl, b4⟩
                have hb4 := hbb.trans (b4.mono hbb.size)
                clear b2 b4 kq ho2
                go_wp2
                go_returns
                exact .inr ⟨HX.out, ⟨_, rfl⟩, hb4⟩
            · have q1 : (n == (t.length : Int)) = false := beq_eq_false_iff_ne.2 heq
              have HX := hide (show FN = none by
                rw [HFN.out, HR.out, Option.bind_some, if_neg (fun h => heq h.1)])
              clear heq hz
              go_wp2_with fail
              refine (NO.out _).mono ?_
              rintro e w2 ⟨rfl, b2⟩
              have hbb := (hbw.trans (b2.mono hbw.size)).alloc (by have := b2.size; have := hbw.size; omega) (.cells #[.int .i64 0, .int .i64 n] 36)
              clear b2
              go_wp2
              go_returns
              exact .inr ⟨HX.out, ⟨_, rfl⟩, hbb⟩
    · have hR : rdL x rest = none := by unfold rdL; rw [if_neg hT]
      have CP : Calls Tryz.prog 38 #[.string (strOfNums x), .string { data := #[116, 114, 97, 99, 101, 32] }] W fun e w' => e = .returned (.tuple #[.string (strOfNums x), .bool false]) ∧ W = w' := by
        have e1 : (x.take trW.length == trW) = false := beq_eq_false_iff_ne.2 hT
        rw [e1, if_neg (by simp)] at CP0
        exact CP0
      rw [hR]
      clear CP0 hT hR
      go_enter Tryz.func35, Tryz.ntmps35
      go_wp2_with fail
      refine CS.out.mono ?_
      rintro e w ⟨rfl, rfl⟩
      go_wp2_with fail
      refine SP.mono ?_
      rintro e W ⟨rfl, rfl⟩
      go_wp2_with fail
      refine CP.mono ?_
      rintro e W ⟨rfl, rfl⟩
      go_wp2
      go_returns
      exact .inr ⟨rfl, ⟨_, rfl⟩, HB.out⟩
  · rw [beq_eq_false_iff_ne.2 hE, if_neg (by simp)] at CS
    have hR : rdT l = none := by unfold rdT; rw [if_neg hE]
    rw [hR]
    have SP0 := split_any l 10 w (by omega) (by omega) b8 hM
    have hB8 := cutS_B8 10 l [] b8 (fun x h => by simp at h)
    have hLen := cutS_len 10 l []
    obtain ⟨x, rest, hws⟩ : ∃ x rest, cutS 10 [] l = x :: rest := by
      cases h : cutS 10 [] l with
      | nil => exact absurd h (cutS_ne 10 l [])
      | cons x r => exact ⟨x, r, rfl⟩
    rw [hws] at SP0 hB8 hLen
    simp only [List.length_cons, List.length_nil, Nat.zero_add] at SP0 hLen
    have hx8 := hB8 x (List.mem_cons_self ..)
    have hxl := hLen x (List.mem_cons_self ..)
    have SP : Calls Tryz.prog 58 #[.string (strOfNums l), .string { data := #[10] }] w fun e w' => e = .returned (.slice (some ⟨w.heap.size, 0, none⟩) (rest.length + 1) (rest.length + 1)) ∧ w' = w.alloc (.cells (sts (x :: rest)).toArray 9) := SP0
    have hRd := RdS.new w (x :: rest) 9
    obtain ⟨W, hW⟩ : ∃ W, W = w.alloc (.cells (sts (x :: rest)).toArray 9) := ⟨_, rfl⟩
    have bW : Below w.heap.size w W := by rw [hW]; exact (Below.refl _ _).alloc (Nat.le_refl _) _
    rw [← hW] at SP hRd
    have c0 : W.cell? ⟨w.heap.size, 0, none⟩ = some (.string (strOfNums x)) := by
      obtain ⟨b, off, e, _, h⟩ := hRd.get (i := 0) (by simp)
      cases e
      exact h
    have z1 : (0 : Int) < (rest.length : Int) + 1 := by omega
    have CP0 := cutPre_any x trW W hx8 (fun y hy => by unfold trW at hy; simp at hy; omega) (by unfold maxLen; omega) (by unfold trW maxLen; simp)
    obtain ⟨S, V, CP⟩ : ∃ S V, Calls Tryz.prog 38 #[.string (strOfNums x), .string { data := #[116, 114, 97, 99, 101, 32] }] W fun e w' => e = .returned (.tuple #[.string S, .bool V]) ∧ W = w' := ⟨_, _, CP0⟩
    have HB := hide bW
    clear SP0 hB8 hLen hws hRd hW hM b8 hx8 hxl CP0 bW hE hR
    go_enter Tryz.func35, Tryz.ntmps35
    go_wp2_with fail
    refine CS.out.mono ?_
    rintro e w ⟨rfl, rfl⟩
    go_wp2_with fail
    refine SP.mono ?_
    rintro e W ⟨rfl, rfl⟩
    go_wp2_with fail
    refine CP.mono ?_
    rintro e W ⟨rfl, rfl⟩
    go_wp2
    go_returns
    exact .inr ⟨rfl, ⟨_, rfl⟩, HB.out⟩
end Go.Proofs.YtmdaianbhpppfaaGreatDoor
