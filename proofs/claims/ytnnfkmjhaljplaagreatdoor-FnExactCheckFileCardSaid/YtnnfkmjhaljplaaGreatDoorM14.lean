/- What the laws' walks rest upon, part 14. -/
import Derived.Test.YtnnfkmjhaljplaaGreatDoorM04
import Derived.Test.YtnnfkmjhaljplaaGreatDoorM01
import Derived.Test.YtnnfkmjhaljplaaGreatDoorM06
import Derived.Test.YtnnfkmjhaljplaaGreatDoorM05
import Derived.Test.YtnnfkmjhaljplaaGreatDoorM12
import Derived.Deep.DeepCutAuto
namespace Go.Proofs.YtnnfkmjhaljplaaGreatDoor
open Go.RowKit
set_option maxHeartbeats 400000 in
theorem l4Count_any (t : List (List Ev)) (A : Option Addr) (c : Nat) (w : World) (ht : t.length ≤ 1000) (hall : ∀ l ∈ t, l.length ≤ 1000) (h : RdT w w.heap.size A t) :
    Calls Tryz.prog 139 #[.slice A t.length c] w fun e w' => e = .returned (.int .i64 (sumT t : Nat)) ∧ w = w' := by
  have hb : ∀ t : List (List Ev), (∀ l ∈ t, l.length ≤ 1000) → sumT t ≤ 1000 * t.length := by
    intro t
    induction t with
    | nil => intro _; simp [sumT]
    | cons l r ih =>
      intro h
      have h1 := ih fun x hx => h x (List.mem_cons_of_mem _ hx)
      have := h l (List.mem_cons_self ..)
      simp only [sumT, List.length_cons]
      omega
  have hs : sumT t ≤ 1000000 := by have := hb t hall; omega
  go_enter Tryz.func139, Tryz.ntmps139
  go_wp2
  go_loop [3, 7] (fun q i => ∃ k l : Nat, k ≤ t.length ∧ i = .int .i64 k ∧ q = .int .i64 l ∧ Hid (l + sumT (t.drop k) = sumT t)) (fun _ i => t.length - (intOf i).toNat)
  case atStart => exact ⟨0, 0, Nat.zero_le _, rfl, rfl, hide (by simp)⟩
  case round =>
    obtain ⟨k, l, hk, rfl, rfl, HL⟩ := hrel
    have hl := HL.out
    by_cases hlt : k < t.length
    · obtain ⟨b, off, a, c', rfl, hbb, hc0, hle, hcm, hr⟩ := h.get hlt
      have hd := sumT_drop t k hlt
      have hx1 : l + t[k].length ≤ 1000000 := by omega
      have HD := hide hd
      clear hd hl
      go_wp2
      go_round
      case rel => exact ⟨k + 1, l + t[k].length, by omega, by go_num, by go_num, hide (by have := HL.out; have := HD.out; omega)⟩
      case measure => simp [intOf]; omega
    · have hd := sumT_end hlt
      go_wp2
      go_ret
      exact ⟨ret_int (by omega), rfl⟩
end Go.Proofs.YtnnfkmjhaljplaaGreatDoor
namespace Go.Proofs.YtnnfkmjhaljplaaGreatDoor
open Go.RowKit
theorem evs_drop : ∀ (es : List Ev) (n : Nat), evs (es.drop n) = (evs es).drop (n * 3)
  | [], n => by simp [evs]
  | e :: r, 0 => by simp
  | e :: r, n + 1 => by
    rw [List.drop_succ_cons, evs_drop r n, show (n + 1) * 3 = n * 3 + 1 + 1 + 1 by omega]
    rfl
/-- The address of an event slice from place k on. -/
def cutE (A : Option Addr) (k c : Nat) : Option Addr := if c = k then A else A.map (·.add (k * 3))
theorem RdE.cut {w : World} {B : Nat} {A : Option Addr} {es : List Ev} (h : RdE w B A es) {n c : Nat} (hn : n ≤ es.length) (hc : es.length ≤ c) : RdE w B (cutE A n c) (es.drop n) := by
  intro h0
  have h1 : n < es.length := by rw [evs_length, List.length_drop] at h0; omega
  obtain ⟨b, off, rfl, hb, hx⟩ := h (by rw [evs_length]; omega)
  unfold cutE
  rw [if_neg (by omega)]
  refine ⟨b, off + n * 3, by simp [Go.WideShapes.add_plain], hb, fun i hi => ?_⟩
  have hi' : n * 3 + i < (evs es).length := by rw [evs_length] at hi ⊢; rw [List.length_drop] at hi; omega
  have := hx (n * 3 + i) hi'
  rw [← Nat.add_assoc] at this
  rw [this]
  have e : (evs (es.drop n))[i]? = (evs es)[n * 3 + i]? := by rw [evs_drop, List.getElem?_drop]
  rw [List.getElem?_eq_getElem hi, List.getElem?_eq_getElem hi'] at e
  exact e.symm
end Go.Proofs.YtnnfkmjhaljplaaGreatDoor
namespace Go.Proofs.YtnnfkmjhaljplaaGreatDoor
open Go.RowKit
theorem dcEnd_text {file : List Int} {at_ : Nat} {cs : List (List Ev)} {n : Nat} (h : ¬ ((file.drop at_).length = 7 ∧ (file.drop at_).getD 0 0 = 69)) : dcEnd file at_ cs n = 5 := if_neg h
theorem dcEnd_form {file : List Int} {at_ : Nat} {cs : List (List Ev)} {n : Nat} (h : (file.drop at_).length = 7 ∧ (file.drop at_).getD 0 0 = 69) (h1 : ¬ ((file.drop at_).getD 1 0 = n ∧ (file.drop at_).getD 2 0 = sumT cs)) : dcEnd file at_ cs n = 1 := by unfold dcEnd; rw [if_pos h, if_neg h1]
theorem dcEnd_sum {file : List Int} {at_ : Nat} {cs : List (List Ev)} {n : Nat} (h : (file.drop at_).length = 7 ∧ (file.drop at_).getD 0 0 = 69) (h1 : (file.drop at_).getD 1 0 = n ∧ (file.drop at_).getD 2 0 = sumT cs) (h2 : ¬ fourL (crcV (file.take (at_ + 3))) = (file.drop at_).drop 3) : dcEnd file at_ cs n = 6 := by unfold dcEnd; rw [if_pos h, if_pos h1, if_neg h2]
theorem dcEnd_ok {file : List Int} {at_ : Nat} {cs : List (List Ev)} {n : Nat} (h : (file.drop at_).length = 7 ∧ (file.drop at_).getD 0 0 = 69) (h1 : (file.drop at_).getD 1 0 = n ∧ (file.drop at_).getD 2 0 = sumT cs) (h2 : fourL (crcV (file.take (at_ + 3))) = (file.drop at_).drop 3) : dcEnd file at_ cs n = 0 := by unfold dcEnd; rw [if_pos h, if_pos h1, if_pos h2]
set_option maxRecDepth 100000 in
set_option maxHeartbeats 4000000 in
theorem rdrEnd_any (w0 : World) (g gv base : Nat) (file : List Int) (A : Option Addr) (c at_ n : Nat) (last : Int) (cs : List (List Ev)) (us : List Value) (w : World) (hf : file.length ≤ 2000) (hc : file.length ≤ c) (b8 : B8 file) (hat : at_ ≤ file.length) (hcs : cs.length ≤ 4) (hall : ∀ l ∈ cs, l.length ≤ 8)
    (hr : RdrAt w0 g gv base file A c at_ n last cs us w) :
    Calls Tryz.prog 169 #[.pointer (some ⟨g, 0, none⟩)] w fun e w' => e = .returned (.int .i64 (dcEnd file at_ cs n)) ∧ Below w.heap.size w w' := by
  obtain ⟨d, hd⟩ : ∃ d, d = file.drop at_ := ⟨_, rfl⟩
  have hdl : d.length = file.length - at_ := by rw [hd, List.length_drop]
  have d8 : B8 d := by rw [hd]; exact b8.drop at_
  have rdd : Rd .u8 w w.heap.size (cutA A at_ c) d := by rw [hd]; exact ((hr.rd.cut (n := at_) hat hc).more hr.old.size)
  have CUT := fun W => run_cut A file.length at_ c at_ W rfl hat
  rw [← hdl] at CUT
  have c0 := (hr.blk.cell 0).trans (rfl : _ = some (Value.slice A file.length c))
  have c1 := (hr.blk.cell 1).trans (rfl : _ = some (Value.int .i64 at_))
  have HD := hide hd
  by_cases h7 : d.length = 7
  · rw [h7] at CUT
    have x0 := getD_at d 0 (by omega)
    have x1 := getD_at d 1 (by omega)
    have x2 := getD_at d 2 (by omega)
    obtain ⟨bk, off, hA, hbb, hx⟩ := rdd.all (by omega)
    have q0 := hx 0 (by omega)
    have q1 := hx 1 (by omega)
    have q2 := hx 2 (by omega)
    rw [Nat.add_zero] at q0
    have y0 := d8.get 0 (by omega)
    have y1 := d8.get 1 (by omega)
    have y2 := d8.get 2 (by omega)
    rw [← x0] at q0 y0
    rw [← x1] at q1 y1
    rw [← x2] at q2 y2
    obtain ⟨v0, hv0⟩ : ∃ v, v = d.getD 0 0 := ⟨_, rfl⟩
    obtain ⟨v1, hv1⟩ : ∃ v, v = d.getD 1 0 := ⟨_, rfl⟩
    obtain ⟨v2, hv2⟩ : ∃ v, v = d.getD 2 0 := ⟨_, rfl⟩
    rw [← hv0] at q0 y0
    rw [← hv1] at q1 y1
    rw [← hv2] at q2 y2
    clear x0 x1 x2 hx
    rw [hA] at CUT
    by_cases h69 : v0 = 69
    · have H1 : (file.drop at_).length = 7 ∧ (file.drop at_).getD 0 0 = 69 := by rw [← hd]; exact ⟨h7, by rw [← hv0]; exact h69⟩
      by_cases hn1 : v1 = n
      · by_cases hn2 : v2 = sumT cs
        · have hH : file.take (at_ + 3) = file.take (at_ + 3) := rfl
          have H2 : (file.drop at_).getD 1 0 = n ∧ (file.drop at_).getD 2 0 = sumT cs := by rw [← hd, ← hv1, ← hv2]; exact ⟨hn1, hn2⟩
          have LC := hide (fun W hW => l4Count_any cs (some ⟨gv, 0, none⟩) cs.length W (by omega) (fun l hl => by have := hall l hl; omega) hW)
          have lT : (file.take (at_ + 3)).length = at_ + 3 := by rw [List.length_take]; omega
          have lY : (d.drop 3).length = 4 := by rw [List.length_drop]; omega
          have rT := (hr.rd.take (at_ + 3)).more hr.old.size
          have rY := rdd.cut (n := 3) (c := c - at_) (by omega) (by omega)
          have hbd := crcV_bd (b8.take (at_ + 3))
          have v8 := fourL_B8 hbd
          have hcv : ((crcS 4294967295 (file.take (at_ + 3)) ^^^ 4294967295 : Nat) : Int) = crcV (file.take (at_ + 3)) := by unfold crcV; rw [if_pos (by omega)]
          have CR0 := fun W hW => l1Crc_any (file.take (at_ + 3)) A c W (by omega) hW (b8.take _)
          have SS := sameB_str v8 (d8.drop 3)
          have E00 := fun (W1 W2 : World) (hW : Rd .u8 W1 W1.heap.size (cutA (cutA A at_ c) 3 (c - at_)) (d.drop 3)) (hB : Below W1.heap.size W1 W2) => run_str (P := Tryz.prog) (c - at_ - 3) 22 5 Tryz.underlying22 Tryz.underlying5 (hW.below hB) 9 Tryz.underlying9
          rw [lT, hcv] at CR0
          rw [lY] at E00
          have EX : Hid (dcEnd file at_ cs n = if fourL (crcV (file.take (at_ + 3))) = d.drop 3 then 0 else 6) := hide (by
            by_cases h : fourL (crcV (file.take (at_ + 3))) = d.drop 3
            · rw [if_pos h]; exact dcEnd_ok H1 H2 (by rw [← hd]; exact h)
            · rw [if_neg h]; exact dcEnd_sum H1 H2 (by rw [← hd]; exact h))
          obtain ⟨V, hV⟩ : ∃ V, V = crcV (file.take (at_ + 3)) := ⟨_, rfl⟩
          obtain ⟨X, hX⟩ : ∃ X, X = file.take (at_ + 3) := ⟨_, rfl⟩
          obtain ⟨Y, hY⟩ : ∃ Y, Y = d.drop 3 := ⟨_, rfl⟩
          rw [← hV, ← hX] at CR0
          rw [← hV, ← hY] at SS EX
          rw [← hV] at hbd
          rw [← hX] at rT
          rw [← hY] at rY E00
          rw [hA] at rY E00
          have CR := hide CR0
          have E0 := hide E00
          have ES := hide SS
          have FR := hide (fun W => l1Four_any V W hbd)
          have WT : IntKind.i64.wrap ((at_ : Int) + 3) = (at_ : Int) + 3 := wraps_i64_62 _ (by omega) (by omega)
          have S1 := fun W => run_head A file.length (at_ + 3) c ((at_ : Int) + 3) W rfl (by omega)
          have S2 := fun W => run_cut (cutA A at_ c) 7 3 (c - at_) 3 W rfl (by omega)
          rw [hA] at S2
          simp only [show 7 - 3 = 4 from rfl] at S2
          obtain ⟨G, hG⟩ : ∃ G, G = dcEnd file at_ cs n := ⟨_, rfl⟩
          rw [← hG] at EX ⊢
          have hs2 : sumT cs ≤ 255 := by omega
          subst h69
          subst hn1
          subst hn2
          clear H1 H2 hv0 hv1 hv2 hd hdl h7 hV hX hY CR0 SS E00 lT lY hbd v8 hcv hH hG
          go_enter Tryz.func169, Tryz.ntmps169
          go_wp2
          go_quiet (fail)
          go_wp2
          generalize hZ : w.drewN _ = Z
          have hb : Below w.heap.size w Z := by rw [← hZ]; exact below_drewN (Below.refl _ _) _
          have hr := hr.below hb
          have q1 := cell_kept hb q1
          have q2 := cell_kept hb q2
          have c0 := (hr.blk.cell 0).trans (rfl : _ = some (Value.slice A file.length c))
          have c1 := (hr.blk.cell 1).trans (rfl : _ = some (Value.int .i64 at_))
          have c2 := (hr.blk.cell 2).trans (rfl : _ = some (Value.slice (some ⟨gv, 0, none⟩) cs.length cs.length))
          have c4 := (hr.blk.cell 4).trans (rfl : _ = some (Value.int .i64 n))
          clear hZ
          have rC := hr.own.rd
          have rT := (rT.below hb).lt
          have rY := (rY.below hb).lt
          have W1 : IntKind.i64.wrap (n : Int) = (n : Int) := wraps_i64_62 _ (by omega) (by omega)
          have W2 : IntKind.i64.wrap (sumT cs : Int) = (sumT cs : Int) := wraps_i64_62 _ (by omega) (by omega)
          go_cut [42] (fun s wx => s = .bool false ∧ Below Z.heap.size Z wx)
          case first =>
            go_region_held3 (fun w' => w'.cell? ⟨bk, off + 1, none⟩ = some (.int .u8 n) ∧ w'.cell? ⟨bk, off + 2, none⟩ = some (.int .u8 (sumT cs : Nat)) ∧ w'.cell? ⟨g, 2, none⟩ = some (Value.slice (some ⟨gv, 0, none⟩) cs.length cs.length) ∧ w'.cell? ⟨g, 4, none⟩ = some (Value.int .i64 n) ∧ Below Z.heap.size Z w')
              (first | assumption | exact ⟨q1, q2, c2, c4, (Below.refl _ _).drew⟩)
              (first
                | (go_at_call 139; refine (LC.out _ ?_).mono ?_; (go_split_ands; exact (rC.below (by assumption)).lt); rintro e wa ⟨rfl, rfl⟩))
            go_wp2_with fail
            go_meet
            exact ⟨rfl, by go_split_ands; assumption⟩
          case rest =>
            obtain ⟨rfl, C1⟩ := hcut
            have c0 := cell_kept C1 c0
            have c1 := cell_kept C1 c1
            have rT := (rT.below C1).lt
            have rY := (rY.below C1).lt
            have hbc := hb.trans (C1.mono hb.size)
            clear q0 q1 q2 c2 c4 rC LC C1 hb hr
            by_cases hs : fourL V = Y
            · have HG := hide (EX.out.trans (if_pos hs))
              have hf : sameB (fourL V) Y = true := by unfold sameB; exact beq_iff_eq.2 hs
              rw [hf] at ES
              have es := ES.out
              clear hs hf ES EX
              go_wp2_with fail
              go_cut [59] (fun s wx => s = .bool false ∧ Below wc.heap.size wc wx)
              case first =>
                have p0 := E0.out wc wc.drew rY (Below.refl _ _).drew
                go_region_with (first
                  | (go_at_call 141; refine (CR.out _ ?_).mono ?_; exact rT; rintro e wa ⟨rfl, rfl⟩)
                  | (go_at_call 140; refine (FR.out _).mono ?_; rintro e wa ⟨ga, rfl, oa, ba⟩; have hB1 := (Below.refl wc.heap.size wc).drew.trans ba; have p1 := E0.out wc wa rY hB1; have p2 := run_str (P := Tryz.prog) 4 22 5 Tryz.underlying22 Tryz.underlying5 (Rd.of_own oa) 9 Tryz.underlying9; rw [fourL_length] at p2))
                all_goals
                  go_wp2_with fail
                  go_meet
                  exact ⟨rfl, hB1⟩
              case rest =>
                obtain ⟨rfl, C2⟩ := hcut
                go_wp2
                go_ret
                exact ⟨by rw [HG.out]; rfl, hbc.trans (C2.mono hbc.size)⟩
            · have HG := hide (EX.out.trans (if_neg hs))
              have hf : sameB (fourL V) Y = false := by unfold sameB; exact beq_eq_false_iff_ne.2 hs
              rw [hf] at ES
              have es := ES.out
              clear hs hf ES EX
              go_wp2_with fail
              go_cut [59] (fun s wx => s = .bool true ∧ Below wc.heap.size wc wx)
              case first =>
                have p0 := E0.out wc wc.drew rY (Below.refl _ _).drew
                go_region_with (first
                  | (go_at_call 141; refine (CR.out _ ?_).mono ?_; exact rT; rintro e wa ⟨rfl, rfl⟩)
                  | (go_at_call 140; refine (FR.out _).mono ?_; rintro e wa ⟨ga, rfl, oa, ba⟩; have hB1 := (Below.refl wc.heap.size wc).drew.trans ba; have p1 := E0.out wc wa rY hB1; have p2 := run_str (P := Tryz.prog) 4 22 5 Tryz.underlying22 Tryz.underlying5 (Rd.of_own oa) 9 Tryz.underlying9; rw [fourL_length] at p2))
                all_goals
                  go_wp2_with fail
                  go_meet
                  exact ⟨rfl, hB1⟩
              case rest =>
                obtain ⟨rfl, C2⟩ := hcut
                go_wp2
                go_ret
                exact ⟨by rw [HG.out]; rfl, hbc.trans (C2.mono hbc.size)⟩
        · have hg := dcEnd_form (cs := cs) (n := n) H1 (by rw [← hd, ← hv2]; exact fun h => hn2 h.2)
          have LC := hide (fun W hW => l4Count_any cs (some ⟨gv, 0, none⟩) cs.length W (by omega) (fun l hl => by have := hall l hl; omega) hW)
          obtain ⟨S, hS⟩ : ∃ S, S = sumT cs := ⟨_, rfl⟩
          rw [← hS] at LC hn2
          have g0 : (v2 != (S : Int)) = true := bne_iff_ne.2 hn2
          have g1 : (v2 == (S : Int)) = false := beq_eq_false_iff_ne.2 hn2
          have g2 : decide (v2 = (S : Int)) = false := decide_eq_false hn2
          rw [hg]
          subst h69
          subst hn1
          clear H1 hg hv0 hv1 hv2 hd hdl h7 hn2 hS
          go_enter Tryz.func169, Tryz.ntmps169
          go_wp2
          go_quiet (fail)
          go_wp2
          generalize hV : w.drewN _ = V
          have hb : Below w.heap.size w V := by rw [← hV]; exact below_drewN (Below.refl _ _) _
          have hr := hr.below hb
          have q1 := cell_kept hb q1
          have q2 := cell_kept hb q2
          have c0 := (hr.blk.cell 0).trans (rfl : _ = some (Value.slice A file.length c))
          have c1 := (hr.blk.cell 1).trans (rfl : _ = some (Value.int .i64 at_))
          have c2 := (hr.blk.cell 2).trans (rfl : _ = some (Value.slice (some ⟨gv, 0, none⟩) cs.length cs.length))
          have c4 := (hr.blk.cell 4).trans (rfl : _ = some (Value.int .i64 n))
          clear hV
          have rT := hr.own.rd
          have W1 : IntKind.i64.wrap (n : Int) = (n : Int) := wraps_i64_62 _ (by omega) (by omega)
          have W2 : IntKind.i64.wrap v2 = v2 := wraps_i64_62 _ (by omega) (by omega)
          go_cut [42] (fun s wx => s = .bool true ∧ Below V.heap.size V wx)
          case first =>
            go_region_held3 (fun w' => w'.cell? ⟨bk, off + 1, none⟩ = some (.int .u8 n) ∧ w'.cell? ⟨bk, off + 2, none⟩ = some (.int .u8 v2) ∧ w'.cell? ⟨g, 2, none⟩ = some (Value.slice (some ⟨gv, 0, none⟩) cs.length cs.length) ∧ w'.cell? ⟨g, 4, none⟩ = some (Value.int .i64 n) ∧ Below V.heap.size V w')
              (first | assumption | exact ⟨q1, q2, c2, c4, (Below.refl _ _).drew⟩)
              (first
                | (go_at_call 139; refine (LC.out _ ?_).mono ?_; (go_split_ands; exact (rT.below (by assumption)).lt); rintro e wa ⟨rfl, rfl⟩))
            go_wp2_with fail
            go_meet
            exact ⟨rfl, by go_split_ands; assumption⟩
          case rest =>
            obtain ⟨rfl, C1⟩ := hcut
            go_wp2
            go_ret
            exact ⟨rfl, hb.trans (C1.mono hb.size)⟩
      · have hg := dcEnd_form (cs := cs) (n := n) H1 (by rw [← hd, ← hv1]; exact fun h => hn1 h.1)
        have g0 : (v1 != (n : Int)) = true := bne_iff_ne.2 hn1
        have g1 : (v1 == (n : Int)) = false := beq_eq_false_iff_ne.2 hn1
        have g2 : decide (v1 = (n : Int)) = false := decide_eq_false hn1
        rw [hg]
        subst h69
        clear H1 hg hv0 hv1 hv2 hd hdl h7 hn1
        go_enter Tryz.func169, Tryz.ntmps169
        go_wp2
        go_quiet (fail)
        go_wp2
        generalize hV : w.drewN _ = V
        have hb : Below w.heap.size w V := by rw [← hV]; exact below_drewN (Below.refl _ _) _
        have hr := hr.below hb
        have q1 := cell_kept hb q1
        have q2 := cell_kept hb q2
        have c0 := (hr.blk.cell 0).trans (rfl : _ = some (Value.slice A file.length c))
        have c1 := (hr.blk.cell 1).trans (rfl : _ = some (Value.int .i64 at_))
        have c2 := (hr.blk.cell 2).trans (rfl : _ = some (Value.slice (some ⟨gv, 0, none⟩) cs.length cs.length))
        have c4 := (hr.blk.cell 4).trans (rfl : _ = some (Value.int .i64 n))
        clear hV
        go_quiet (fail)
        go_wp2
        go_ret
        exact ⟨rfl, hb.trans (below_drewN (Below.refl _ _) _ |>.mono hb.size)⟩
    · have hg := dcEnd_text (cs := cs) (n := n) (show ¬ ((file.drop at_).length = 7 ∧ (file.drop at_).getD 0 0 = 69) by rw [← hd, ← hv0]; exact fun h => h69 h.2)
      have g0 : (v0 != 69) = true := bne_iff_ne.2 h69
      have g1 : (v0 == 69) = false := beq_eq_false_iff_ne.2 h69
      rw [hg]
      clear hg hv0 hv1 hv2 hd hdl h7 h69
      go_enter Tryz.func169, Tryz.ntmps169
      go_wp2
      go_quiet (fail)
      go_wp2
      go_ret
      exact ⟨rfl, below_drewN (Below.refl _ _) _⟩
  · have hg := dcEnd_text (cs := cs) (n := n) (show ¬ ((file.drop at_).length = 7 ∧ (file.drop at_).getD 0 0 = 69) by rw [← hd]; exact fun h => h7 h.1)
    obtain ⟨m, hm⟩ : ∃ m, m = d.length := ⟨_, rfl⟩
    rw [← hm] at CUT h7
    have h7' : ¬ (m : Int) = 7 := by omega
    have g0 : ((m : Int) != 7) = true := bne_iff_ne.2 h7'
    have g1 : ((m : Int) == 7) = false := beq_eq_false_iff_ne.2 h7'
    rw [hg]
    clear hg hm hdl hd
    go_enter Tryz.func169, Tryz.ntmps169
    go_wp2
    go_quiet (fail)
    go_wp2
    go_ret
    exact ⟨rfl, below_drewN (Below.refl _ _) _⟩
end Go.Proofs.YtnnfkmjhaljplaaGreatDoor
namespace Go.Proofs.YtnnfkmjhaljplaaGreatDoor
open Go.RowKit
theorem ownT_made {w : World} {base n : Nat} {v : Value} (h : w.ownsRow base 45 1 v n (List.replicate n (.slice none 0 0))) : OwnT w base v (List.replicate n []) (List.replicate n (.slice none 0 0)) := by
  refine ⟨by rw [List.length_replicate]; exact h, fun i hi => ?_, fun i j u u' _ hu _ b hb => ?_⟩
  · rw [List.length_replicate] at hi
    refine ⟨.slice none 0 0, by rw [List.getElem?_replicate, if_pos hi], ?_, fun b hb => by cases hb⟩
    simp only [List.getElem_replicate]
    exact World.ownsRow_nil _ _ _ _
  · have := List.eq_of_mem_replicate (List.mem_of_getElem? hu)
    rw [this] at hb
    cases hb
theorem made_slices (n : Nat) : (madeCells (Value.slice none 0 0).cells (n * 1)).toList = List.replicate n (.slice none 0 0) := by
  apply List.ext_getElem
  · simp [madeCells]
  · intro i h1 h2
    simp [madeCells, Value.cells, Nat.mod_one]
theorem RdE.one_new (w : World) (e : Ev) (T : TypeId) : RdE (w.alloc (.cells #[.int .i64 e.k, .int .i64 e.a, .int .i64 e.v] T)) (w.heap.size + 1) (some ⟨w.heap.size, 0, none⟩) [e] := fun _ =>
  ⟨w.heap.size, 0, rfl, Nat.lt_succ_self _, fun i hi => by
    rw [Nat.zero_add, (Bk.new w #[.int .i64 e.k, .int .i64 e.a, .int .i64 e.v] T).cell i]
    simp only [List.getElem?_toArray]
    exact List.getElem?_eq_getElem hi⟩
end Go.Proofs.YtnnfkmjhaljplaaGreatDoor
