/- Contracts of holdersOf and linesAgree, in the program. -/
import Derived.Test.YtifijhfeeammkaaAgrM
import Derived.Test.YtifijhfeeammkaaValR
import Derived.Deep.RegionHeld3
import Derived.Deep.DeepCutAuto
namespace Go.Proofs.Ytifijhfeeammkaa
open Go.RowKit

set_option maxRecDepth 100000 in
set_option maxHeartbeats 400000 in
theorem holdersOf_any (l : List Ev) (A : Option Addr) (c : Nat) (a : Int) (w : World) (hm : l.length ≤ 1000000) (h : RdE w w.heap.size A l) :
    Calls Try.prog 123 #[.slice A l.length c, .int .i64 a] w fun e w' => e = .returned (.int .i64 (holdC l a)) ∧ Below w.heap.size w w' := by
  go_enter Try.func123, Try.ntmps123
  go_wp2
  go_loopw [5, 10] (fun s i wr => ∃ k n : Nat, k ≤ l.length ∧ i = .int .i64 k ∧ s = .int .i64 n ∧ n ≤ k ∧ Below w.heap.size w wr ∧ Hid (n + holdC (l.drop k) a = holdC l a)) (fun _ i _ => l.length - (intOf i).toNat)
  case atStart => exact ⟨0, 0, Nat.zero_le _, rfl, rfl, Nat.le_refl _, Below.refl _ _, hide (by simp)⟩
  case round =>
    obtain ⟨k, n, hk, rfl, rfl, hnk, hb, HR⟩ := hrel
    by_cases hlt : k < l.length
    · obtain ⟨b, off, rfl, hbb, hc0, hc1, hc2⟩ := (h.below hb).get hlt
      have hd := holdC_drop l k hlt a
      have hbx := fun o => hb.alloc hb.size o
      have HB := hide hbx
      clear hbx
      by_cases h0 : l[k].k = 0
      · rw [if_neg (fun hm => hm.1 h0)] at hd
        have HN := hide (show n + holdC (l.drop (k + 1)) a = holdC l a by have := HR.out; omega)
        rw [h0] at hc0
        clear hd HR h0
        go_wp2
        go_roundw
        case rel => exact ⟨k + 1, n, by omega, by go_num, rfl, by omega, HB.out _, HN⟩
        case measure => simp [intOf]; omega
      · have f0 : (l[k].k != 0) = true := bne_iff_ne.2 h0
        have f1 : (l[k].k == 0) = false := beq_eq_false_iff_ne.2 h0
        by_cases ha : l[k].a = a
        · rw [if_pos ⟨h0, ha⟩] at hd
          have HN := hide (show (n + 1) + holdC (l.drop (k + 1)) a = holdC l a by have := HR.out; omega)
          have f2 : (l[k].a == a) = true := beq_iff_eq.2 ha
          clear hd HR h0 ha
          go_wp2
          go_roundw
          case rel => exact ⟨k + 1, n + 1, by omega, by go_num, by go_num, by omega, HB.out _, HN⟩
          case measure => simp [intOf]; omega
        · rw [if_neg (fun hm => ha hm.2)] at hd
          have HN := hide (show n + holdC (l.drop (k + 1)) a = holdC l a by have := HR.out; omega)
          have f2 : (l[k].a == a) = false := beq_eq_false_iff_ne.2 ha
          clear hd HR h0 ha
          go_wp2
          go_roundw
          case rel => exact ⟨k + 1, n, by omega, by go_num, rfl, by omega, HB.out _, HN⟩
          case measure => simp [intOf]; omega
    · have HN := hide (show n = holdC l a by have := HR.out; rw [List.drop_eq_nil_of_le (by omega)] at this; simpa [holdC] using this)
      clear HR
      go_wp2
      go_ret
      exact ⟨ret_int (by rw [HN.out]), hb⟩

open Classical in
noncomputable def agrB (all : List Ev) (mem : List Cel) : Bool := if Agr all mem then true else false
theorem agrB_yes {all : List Ev} {mem : List Cel} (h : Agr all mem) : agrB all mem = true := if_pos h
theorem agrB_no {all : List Ev} {mem : List Cel} (h : ¬ Agr all mem) : agrB all mem = false := if_neg h
def AgrAt (all : List Ev) (mem : List Cel) (x : Ev) : Prop := (x.k = 1 → x.v = readM mem x.a) ∧ (x.k = 2 → holdC all x.a ≤ 1)
def AgrTo (all : List Ev) (mem : List Cel) (k : Nat) : Prop := ∀ i (h : i < all.length), i < k → AgrAt all mem all[i]
theorem AgrTo.step {all : List Ev} {mem : List Cel} {k : Nat} (h : AgrTo all mem k) (hk : k < all.length) (hx : AgrAt all mem all[k]) : AgrTo all mem (k + 1) := fun i hi hik => by
  by_cases e : i = k
  · subst e; exact hx
  · exact h i hi (by omega)
theorem AgrTo.all_ {all : List Ev} {mem : List Cel} (h : AgrTo all mem all.length) : Agr all mem := fun x hx => by
  obtain ⟨i, hi, rfl⟩ := List.getElem_of_mem hx
  exact h i hi hi

set_option maxRecDepth 100000 in
set_option maxHeartbeats 800000 in
theorem linesAgree_any (l : List Ev) (mem : List Cel) (A A' : Option Addr) (c c' : Nat) (w : World) (hm : l.length ≤ 1000000) (hm2 : mem.length ≤ maxLen) (h : RdE w w.heap.size A l) (h' : RdC w w.heap.size A' mem) :
    Calls Try.prog 85 #[.slice A l.length c, .slice A' mem.length c'] w fun e w' => e = .returned (.bool (agrB l mem)) ∧ Below w.heap.size w w' := by
  have HV := hide (fun W a (hW : RdC W W.heap.size A' mem) => valueAt_any mem A' c' a W hm2 hW)
  have HH := hide (fun W a (hW : RdE W W.heap.size A l) => holdersOf_any l A c a W hm hW)
  have HA := hide h
  go_enter Try.func85, Try.ntmps85
  go_wp2
  go_loopw [9] (fun i wr => ∃ k : Nat, k ≤ l.length ∧ i = .int .i64 k ∧ Below w.heap.size w wr ∧ Hid (AgrTo l mem k)) (fun i _ => l.length - (intOf i).toNat)
  case atStart => exact ⟨0, Nat.zero_le _, rfl, Below.refl _ _, hide fun _ _ h => by omega⟩
  case round =>
    obtain ⟨k, hk, rfl, hb, HR⟩ := hrel
    by_cases hlt : k < l.length
    · obtain ⟨b, off, rfl, hbb, hc0, hc1, hc2⟩ := (h.below hb).get hlt
      have HS := hide (fun hx => HR.out.step hlt hx)
      have HN := hide (show ¬ AgrAt l mem l[k] → agrB l mem = false from fun hx => agrB_no fun hA => hx (hA _ (List.getElem_mem hlt)))
      obtain ⟨X, hX⟩ : ∃ X, X = l[k] := ⟨_, rfl⟩
      rw [← hX] at hc0 hc1 hc2 HS HN
      clear hX
      have kx := Bk.new wr #[.int .i64 X.k, .int .i64 X.a, .int .i64 X.v] 115
      have hbx := hb.alloc hb.size (Obj.cells #[.int .i64 X.k, .int .i64 X.a, .int .i64 X.v] 115)
      by_cases h1 : X.k = 1
      · rw [h1] at hc0 kx hbx
        have h2 : ¬ X.k = 2 := by omega
        go_wp2_with fail
        generalize wr.alloc (Obj.cells #[.int .i64 1, .int .i64 X.a, .int .i64 X.v] 115) = W at *
        generalize wr.heap.size = q at *
        have hr' := h'.below hbx
        have q1 := (kx.cell 1).trans (rfl : _ = some (Value.int .i64 X.a))
        have q2 := (kx.cell 2).trans (rfl : _ = some (Value.int .i64 X.v))
        obtain ⟨R, hR⟩ : ∃ R, R = readM mem X.a := ⟨_, rfl⟩
        have hV := HV.out
        have VA := hide (fun W hW => hV W X.a hW)
        clear hV
        go_cut [23] (fun s wx => s = .bool (X.v != R) ∧ Below W.heap.size W wx)
        case first =>
          go_region_held3 (fun w' => w'.cell? ⟨q, 1, none⟩ = some (.int .i64 X.a) ∧ w'.cell? ⟨q, 2, none⟩ = some (.int .i64 X.v) ∧ Below W.heap.size W w')
            (first | assumption | exact ⟨q1, q2, (Below.refl _ _).drew⟩ | (go_split_ands; exact ⟨cell_kept (by assumption) (by assumption), cell_kept (by assumption) (by assumption), Below.trans (by assumption) (Below.mono (by assumption) (Below.size (by assumption)))⟩))
            (first
              | (go_at_call 73; refine (VA.out _ ?_).mono ?_; (go_split_ands; exact (hr'.below ((by assumption : Below W.heap.size W _).mono hbx.size)).more (Nat.le_trans hbx.size (Below.size (by assumption)))); rintro e wa ⟨rfl, ba⟩))
          all_goals
            go_wp2_with fail
            go_meet
            exact ⟨by rw [hR], by go_split_ands; assumption⟩
        case rest =>
          obtain ⟨rfl, C1⟩ := hcut
          have B1 := hbx.trans (C1.mono hbx.size)
          clear C1 q1 q2 kx hbx hr'
          by_cases he : X.v = R
          · have f0 : (X.v != R) = false := by simp [he]
            have HE := hide (HS.out ⟨fun _ => by rw [he, hR], fun e => absurd e h2⟩)
            clear he hR
            go_wp2
            go_roundw
            case rel => exact ⟨k + 1, by omega, by go_num, B1, HE⟩
            case measure => simp [intOf]; omega
          · have f0 : (X.v != R) = true := bne_iff_ne.2 he
            have HE := hide (HN.out fun hx => he (by rw [hx.1 h1, hR]))
            clear he hR
            go_wp2
            go_ret
            exact ⟨ret_bool (by rw [HE.out]), B1⟩
      · by_cases h2 : X.k = 2
        · rw [h2] at hc0 kx hbx
          obtain ⟨R, hR⟩ : ∃ R, R = holdC l X.a := ⟨_, rfl⟩
          have hRl : R ≤ 1000000 := by rw [hR]; exact Nat.le_trans (holdC_len l X.a) hm
          have hH := HH.out
          have HX := hide (fun W hW => hH W X.a hW)
          rw [← hR] at HX
          clear hH
          have q1 := (kx.cell 1).trans (rfl : _ = some (Value.int .i64 X.a))
          go_wp2_with fail
          refine (HX.out _ ((HA.out.below hbx).more hbx.size)).mono ?_
          rintro e w1 ⟨rfl, b1⟩
          have B1 := hbx.trans (b1.mono hbx.size)
          clear q1 kx hbx b1
          by_cases he : R ≤ 1
          · have HE := hide (HS.out ⟨fun e => absurd e h1, fun _ => by rw [← hR]; exact he⟩)
            clear hR
            go_wp2
            go_roundw
            case rel => exact ⟨k + 1, by omega, by go_num, B1, HE⟩
            case measure => simp [intOf]; omega
          · have HE := hide (HN.out fun hx => he (by rw [hR]; exact hx.2 h2))
            have he' : 1 < R := by omega
            clear hR he
            go_wp2
            go_ret
            exact ⟨ret_bool (by rw [HE.out]), B1⟩
        · have HE := hide (HS.out ⟨fun e => absurd e h1, fun e => absurd e h2⟩)
          have f1 : (X.k == 1) = false := beq_eq_false_iff_ne.2 h1
          have f2 : (X.k == 2) = false := beq_eq_false_iff_ne.2 h2
          clear kx h1 h2
          go_wp2
          go_roundw
          case rel => exact ⟨k + 1, by omega, by go_num, hbx, HE⟩
          case measure => simp [intOf]; omega
    · obtain rfl : k = l.length := by omega
      have HE := hide (agrB_yes HR.out.all_)
      clear HR
      go_wp2
      go_ret
      exact ⟨ret_bool (by rw [HE.out]), hb⟩
end Go.Proofs.Ytifijhfeeammkaa
