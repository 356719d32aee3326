/- Plain mathematics: a file that is cut off is found out, and so is a byte that is turned in what is summed, or in a sum. Plain mathematics of the places of a file, frame by frame. The contract of IsWhole in the program. The contract of IsWhole in the model. -/
import Derived.Test.YtldepledinolmaaGreatDoorGBack
import Derived.Test.YtldepledinolmaaGreatDoorGCrc
import Derived.Test.YtldepledinolmaaGreatDoorGDec
import Derived.Test.YtldepledinolmaaGreatDoorGEnc
import Derived.Deep.Cut
namespace Go.Proofs.YtldepledinolmaaGreatDoor
open Go.RowKit

theorem getD_app {p s : List Int} {i : Nat} (h : i < p.length) : (p ++ s).getD i 0 = p.getD i 0 := by
  rw [List.getD_eq_getElem?_getD, List.getD_eq_getElem?_getD, List.getElem?_append_left h]
theorem getD_set_ne {l : List Int} {i j : Nat} {y : Int} (h : i ≠ j) : (l.set i y).getD j 0 = l.getD j 0 := by
  rw [List.getD_eq_getElem?_getD, List.getD_eq_getElem?_getD, List.getElem?_set_ne h]
/-- What is read as a frame is read so, whatever stands behind it. -/
theorem fr_more {d : List Int} (b : B8 d) (h : frC d = 0) (s : List Int) : frC (d ++ s) = 0 ∧ frK (d ++ s) = frK d ∧ frE (d ++ s) = frE d ∧ frZ (d ++ s) = frZ d := by
  obtain ⟨h1, h2, h3⟩ := fr_again b h
  obtain ⟨r1, r2, r3, r4, r5, r6⟩ := frE_right b h
  have hF := frF_of r3 r4 r2 r1
  have e : d ++ s = frB (frK d) (frE d) ++ (d.drop (frZ d).toNat ++ s) := by rw [h1, ← List.append_assoc, List.take_append_drop]
  have hl : ((frB (frK d) (frE d)).length : Int) = frZ d := by rw [h1, List.length_take]; omega
  obtain ⟨a1, a2, a3, a4⟩ := fr_back hF (d.drop (frZ d).toNat ++ s)
  rw [← e] at a1 a2 a3 a4
  exact ⟨a1, a2, a3, by rw [a4, hl]⟩
/-- The same, of what lies within it. -/
theorem fr_less {d : List Int} (b : B8 d) (h : frC d = 0) (s : List Int) : frC (d.take (frZ d).toNat ++ s) = 0 ∧ frK (d.take (frZ d).toNat ++ s) = frK d ∧ frE (d.take (frZ d).toNat ++ s) = frE d ∧ frZ (d.take (frZ d).toNat ++ s) = frZ d := by
  obtain ⟨h1, h2, h3⟩ := fr_again b h
  obtain ⟨r1, r2, r3, r4, r5, r6⟩ := frE_right b h
  have hF := frF_of r3 r4 r2 r1
  have hl : ((frB (frK d) (frE d)).length : Int) = frZ d := by rw [h1, List.length_take]; omega
  obtain ⟨a1, a2, a3, a4⟩ := fr_back hF s
  rw [h1] at a1 a2 a3 a4
  rw [h1] at hl
  exact ⟨a1, a2, a3, by rw [a4, hl]⟩
theorem dcEnd_zero {file : List Int} {at_ : Nat} {cs : List (List Ev)} {n : Nat} (h : dcEnd file at_ cs n = 0) : (file.drop at_).length = 7 ∧ (file.drop at_).getD 0 0 = 69 ∧ (file.drop at_).getD 1 0 = n ∧ (file.drop at_).getD 2 0 = sumT cs ∧ fourL (crcV (file.take (at_ + 3))) = (file.drop at_).drop 3 := by
  unfold dcEnd at h
  split at h
  · rename_i h1
    split at h
    · rename_i h2
      split at h
      · rename_i h3
        exact ⟨h1.1, h1.2, h2.1, h2.2, h3⟩
      · omega
    · omega
  · omega

theorem cut_dcS (s : List Int) (hs : 0 < s.length) : ∀ (f : Nat) (p : List Int) (at_ : Nat) (cs : List (List Ev)) (last : Int) (n f' : Nat), B8 p → at_ ≤ p.length → p.length + 1 ≤ f + at_ → (p ++ s).length + 1 ≤ f' + at_ → (dcS f p at_ cs last n).1 = 0 → ¬ (dcS f' (p ++ s) at_ cs last n).1 = 0
  | 0, p, at_, _, _, _, _, _, h1, h2, _, _ => by omega
  | f + 1, p, at_, cs, last, n, 0, _, h1, _, h3, _ => by rw [List.length_append] at h3; omega
  | f + 1, p, at_, cs, last, n, f' + 1, b, h1, h2, h3, h0 => by
    have hd : (p ++ s).drop at_ = p.drop at_ ++ s := List.drop_append_of_le_length h1
    by_cases c1 : at_ < p.length ∧ (p.drop at_).getD 0 0 = 66
    · have c1' : at_ < (p ++ s).length ∧ ((p ++ s).drop at_).getD 0 0 = 66 := by
        refine ⟨by rw [List.length_append]; omega, ?_⟩
        rw [hd, getD_app (by rw [List.length_drop]; omega)]; exact c1.2
      by_cases c2 : dcFrame (p.drop at_) cs last = 0
      · rw [dcS_frame c1 c2] at h0
        obtain ⟨z1, z2, z3, z4⟩ := dcFrame_zero c2
        obtain ⟨m1, m2, m3, m4⟩ := fr_more (b.drop at_) z1 s
        obtain ⟨r1, r2, r3, r4, r5, r6⟩ := frE_right (b.drop at_) z1
        rw [List.length_drop] at r6
        rw [← hd] at m1 m2 m3 m4
        have c2' : dcFrame ((p ++ s).drop at_) cs last = 0 := dcFrame_ok m1 (by rw [m2, m3]; exact ⟨z2, z3, z4⟩)
        rw [dcS_frame c1' c2', m2, m4, show dcNext ((p ++ s).drop at_) cs = dcNext (p.drop at_) cs by unfold dcNext; rw [m2, m3]]
        rw [List.length_append] at h3
        exact cut_dcS s hs f p _ _ _ _ f' b (by omega) (by omega) (by rw [List.length_append]; omega) h0
      · rw [dcS_stop c1 c2] at h0; exact absurd h0 c2
    · rw [dcS_end c1] at h0
      by_cases c3 : dcEnd p at_ cs n = 0
      · obtain ⟨e1, e2, _⟩ := dcEnd_zero c3
        have hl : at_ + 7 = p.length := by rw [List.length_drop] at e1; omega
        have c1' : ¬ (at_ < (p ++ s).length ∧ ((p ++ s).drop at_).getD 0 0 = 66) := by
          rintro ⟨_, hh⟩
          rw [hd, getD_app (by omega), e2] at hh
          omega
        rw [dcS_end c1']
        have c4 : dcEnd (p ++ s) at_ cs n = 5 := by
          unfold dcEnd
          rw [if_neg]
          rintro ⟨hh, _⟩
          rw [List.length_drop, List.length_append] at hh
          omega
        rw [c4]; simp
      · rw [if_neg c3] at h0; exact absurd h0 c3
theorem B8.left {p s : List Int} (b : B8 (p ++ s)) : B8 p := fun x hx => b x (List.mem_append_left _ hx)
theorem dc_len {file : List Int} (h : (dc file).1 = 0) : file.length ≤ 2000 ∧ dcHd file := by
  by_cases h1 : file.length ≤ 2000
  · by_cases h2 : dcHd file
    · exact ⟨h1, h2⟩
    · rw [dc_text h1 h2] at h; simp at h
  · rw [dc_many h1] at h; simp at h
/-- The beginning of a right file, cut off, is none. -/
theorem cut_bad {p s : List Int} (b : B8 (p ++ s)) (hs : 0 < s.length) (h : (dc (p ++ s)).1 = 0) : ¬ (dc p).1 = 0 := by
  intro h0
  obtain ⟨l1, k⟩ := dc_len h
  obtain ⟨l2, k1, k2, k3, k4⟩ := dc_len h0
  have g1 : (p ++ s).getD 1 0 = p.getD 1 0 := getD_app (by omega)
  rw [dc_go l1 k, g1] at h
  rw [dc_go l2 ⟨k1, k2, k3, k4⟩] at h0
  exact cut_dcS s hs _ p 2 _ _ _ _ b.left k1 (by omega) (by omega) h0 h
theorem cut_take {file : List Int} (b : B8 file) (h : (dc file).1 = 0) {n : Nat} (hn : n < file.length) : ¬ (dc (file.take n)).1 = 0 := by
  refine cut_bad (s := file.drop n) ?_ (by rw [List.length_drop]; omega) ?_
  · rw [List.take_append_drop]; exact b
  · rw [List.take_append_drop]; exact h

/-- Numbers that rise one by one. -/
def upI (a n : Nat) : List Int := (List.range' a n).map fun k : Nat => (k : Int)
theorem upI_mem {a n : Nat} {x : Int} : x ∈ upI a n ↔ ∃ k : Nat, x = k ∧ a ≤ k ∧ k < a + n := by
  unfold upI
  rw [List.mem_map]
  constructor
  · rintro ⟨k, hk, rfl⟩
    rw [List.mem_range'_1] at hk
    exact ⟨k, rfl, hk.1, hk.2⟩
  · rintro ⟨k, rfl, h1, h2⟩
    exact ⟨k, List.mem_range'_1.2 ⟨h1, h2⟩, rfl⟩
theorem upI_len (a n : Nat) : (upI a n).length = n := by simp [upI]
theorem upI_snoc (a n : Nat) : upI a (n + 1) = upI a n ++ [((a + n : Nat) : Int)] := by
  unfold upI
  rw [List.range'_1_concat, List.map_append]
  rfl
theorem upI_zero (a : Nat) : upI a 0 = [] := rfl
/-- The places of a file from one on: those of each frame's events and of its sum, and of the end's sum. -/
noncomputable def spS : Nat → List Int → Nat → List Int
  | 0, _, _ => []
  | f + 1, file, at_ =>
    if at_ < file.length ∧ (file.drop at_).getD 0 0 = 66 then upI (at_ + frFrom (file.drop at_)) (frTo (file.drop at_) + 4 - frFrom (file.drop at_)) ++ spS f file (at_ + frTo (file.drop at_) + 4)
    else upI (at_ + 3) (file.length - (at_ + 3))
theorem spS_frame {f : Nat} {file : List Int} {at_ : Nat} (h : at_ < file.length ∧ (file.drop at_).getD 0 0 = 66) : spS (f + 1) file at_ = upI (at_ + frFrom (file.drop at_)) (frTo (file.drop at_) + 4 - frFrom (file.drop at_)) ++ spS f file (at_ + frTo (file.drop at_) + 4) := by
  conv => lhs; unfold spS
  rw [if_pos h]
theorem spS_end {f : Nat} {file : List Int} {at_ : Nat} (h : ¬ (at_ < file.length ∧ (file.drop at_).getD 0 0 = 66)) : spS (f + 1) file at_ = upI (at_ + 3) (file.length - (at_ + 3)) := by
  conv => lhs; unfold spS
  rw [if_neg h]
theorem spS_ge : ∀ (f : Nat) (file : List Int) (at_ : Nat) (x : Int), x ∈ spS f file at_ → (at_ : Int) + 2 ≤ x
  | 0, _, _, x, h => by simp [spS] at h
  | f + 1, file, at_, x, h => by
    by_cases c : at_ < file.length ∧ (file.drop at_).getD 0 0 = 66
    · rw [spS_frame c] at h
      rcases List.mem_append.1 h with h | h
      · obtain ⟨k, rfl, h1, h2⟩ := upI_mem.1 h
        unfold frFrom at h1
        omega
      · have := spS_ge f file _ x h
        omega
    · rw [spS_end c] at h
      obtain ⟨k, rfl, h1, h2⟩ := upI_mem.1 h
      omega
/-- The places of a right trace's file. -/
noncomputable def spL (t : List (List Ev)) (b : Int) : List Int := if fcC t b = 0 then spS ((filL b.toNat t).length + 1) (filL b.toNat t) 2 else []

theorem drop_set_lt {l : List Int} {i n : Nat} {y : Int} (h : i < n) : (l.set i y).drop n = l.drop n := by
  rw [List.drop_set]
  rw [if_pos h]
theorem drop_set_ge {l : List Int} {i n : Nat} {y : Int} (h : n ≤ i) : (l.set i y).drop n = (l.drop n).set (i - n) y := by
  rw [List.drop_set]
  rw [if_neg (by omega)]
theorem take_set_ge {l : List Int} {i n : Nat} {y : Int} (h : n ≤ i) : (l.set i y).take n = l.take n := by
  rw [List.take_set, List.set_eq_of_length_le (by rw [List.length_take]; omega)]
theorem four_inj {x y : Int} (hx : 0 ≤ x ∧ x < 4294967296) (hy : 0 ≤ y ∧ y < 4294967296) (h : fourL x = fourL y) : x = y := by
  unfold fourL at h
  simp only [List.cons.injEq, and_true] at h
  omega
theorem set_ne_self {l : List Int} {i : Nat} {y : Int} (hi : i < l.length) (h : y ≠ l[i]) : l.set i y ≠ l := by
  intro e
  have := congrArg (fun m => m[i]?) e
  simp only [List.getElem?_set_self hi, List.getElem?_eq_getElem hi, Option.some.injEq] at this
  exact h this
/-- A number's bytes are read so, whatever is turned behind them. -/
theorem rd_set {l : List Int} (b : B8 l) (h : rdC l = 0) {i : Nat} (hi : (rdZ l).toNat ≤ i) (y : Int) : rdC (l.set i y) = 0 ∧ rdV (l.set i y) = rdV l ∧ rdZ (l.set i y) = rdZ l := by
  obtain ⟨z1, z2, z3, z4, z5⟩ := rd_back b h
  have hl : (putL (rdV l)).length = (rdZ l).toNat := by rw [z5, List.length_take]; omega
  have e : l.set i y = putL (rdV l) ++ (l.drop (rdZ l).toNat).set (i - (rdZ l).toNat) y := by
    conv => lhs; rw [← List.take_append_drop (rdZ l).toNat l]
    rw [List.set_append_right _ _ (by rw [List.length_take]; omega), ← z5, hl]
  obtain ⟨a1, a2, a3⟩ := rd_app (rdV l) ((l.drop (rdZ l).toNat).set (i - (rdZ l).toNat) y) z3 z4
  rw [← e] at a1 a2 a3
  exact ⟨a1, a2, by rw [a3, hl]; omega⟩
/-- A frame in which a byte of its events or its sum is turned is none. -/
theorem fr_turn {d : List Int} (b : B8 d) (h : frC d = 0) {j : Nat} (h1 : frFrom d ≤ j) (h2 : j < frTo d + 4) {y : Int} (y0 : 0 ≤ y) (y1 : y < 256) (hl : d.length ≤ 4000) (hj : j < d.length) (hy : y ≠ d[j]) : frC (d.set j y) = 6 := by
  obtain ⟨hH, hQ, hU⟩ := frC_zero h
  obtain ⟨k0, k1, k2, k3, k4, k5, k6⟩ := hH
  have hf2 : 2 + (rdZ (d.drop 2)).toNat ≤ j := h1
  obtain ⟨a1, a2, a3⟩ := rd_set (b.drop 2) k3 (i := j - 2) (by omega) y
  have e2 : (d.set j y).drop 2 = (d.drop 2).set (j - 2) y := drop_set_ge (by omega)
  rw [← e2] at a1 a2 a3
  have hF : frFrom (d.set j y) = frFrom d := by unfold frFrom; rw [a3]
  have hT : frTo (d.set j y) = frTo d := by unfold frTo; rw [hF, a2]
  refine frC_sum ⟨by rw [List.length_set]; exact k0, by rw [getD_set_ne (by omega)]; exact k1, by rw [getD_set_ne (by omega)]; exact k2, a1, by rw [a2]; exact k4, by rw [a2]; exact k5, by rw [hT, List.length_set]; exact k6⟩ ?_
  unfold frSum at hQ ⊢
  rw [hT]
  rcases Nat.lt_or_ge j (frTo d) with c | c
  · rw [List.take_set, drop_set_lt c, ← hQ]
    intro e
    have bt := b.take (frTo d)
    have hj2 : j < (d.take (frTo d)).length := by rw [List.length_take]; omega
    have bs : B8 ((d.take (frTo d)).set j y) := fun x hx => by
      rcases List.mem_or_eq_of_mem_set hx with a | a
      · exact bt x a
      · rw [a]; exact ⟨y0, y1⟩
    have := four_inj (crcV_bd bs) (crcV_bd bt) e
    exact (crc_ne (d.take (frTo d)) j hj2 y bt y0 y1 (by rw [List.getElem_take]; exact hy) (crc_in (by rw [List.length_take]; omega)).1).2 this
  · rw [take_set_ge c, drop_set_ge c, hQ, List.take_set]
    intro e
    have hj3 : j - frTo d < ((d.drop (frTo d)).take 4).length := by rw [List.length_take, List.length_drop]; omega
    refine set_ne_self hj3 ?_ e.symm
    rw [List.getElem_take, List.getElem_drop]
    have : frTo d + (j - frTo d) = j := by omega
    simp only [this]
    exact hy

theorem turn_dcS {file : List Int} (b : B8 file) (hl : file.length ≤ 2000) {i : Nat} (hi : i < file.length) {y : Int} (y0 : 0 ≤ y) (y1 : y < 256) (hy : y ≠ file[i]) : ∀ (f at_ : Nat) (cs : List (List Ev)) (last : Int) (n : Nat), at_ ≤ file.length → file.length + 1 ≤ f + at_ → (dcS f file at_ cs last n).1 = 0 → (i : Int) ∈ spS f file at_ → ¬ (dcS f (file.set i y) at_ cs last n).1 = 0
  | 0, at_, _, _, _, h1, h2, _, _ => by omega
  | f + 1, at_, cs, last, n, h1, h2, h0, hm => by
    have hge := spS_ge _ _ _ _ hm
    have hd : (file.set i y).drop at_ = (file.drop at_).set (i - at_) y := drop_set_ge (by omega)
    have hj : i - at_ < (file.drop at_).length := by rw [List.length_drop]; omega
    have hyj : y ≠ (file.drop at_)[i - at_] := by
      rw [List.getElem_drop]
      have : at_ + (i - at_) = i := by omega
      simp only [this]
      exact hy
    have hg0 : ((file.set i y).drop at_).getD 0 0 = (file.drop at_).getD 0 0 := by rw [hd]; exact getD_set_ne (by omega)
    have hls : (file.set i y).length = file.length := List.length_set ..
    have bd := b.drop at_
    by_cases c1 : at_ < file.length ∧ (file.drop at_).getD 0 0 = 66
    · have c1' : at_ < (file.set i y).length ∧ ((file.set i y).drop at_).getD 0 0 = 66 := by rw [hls, hg0]; exact c1
      rw [spS_frame c1] at hm
      by_cases c2 : dcFrame (file.drop at_) cs last = 0
      · rw [dcS_frame c1 c2] at h0
        obtain ⟨z1, z2, z3, z4⟩ := dcFrame_zero c2
        obtain ⟨r1, r2, r3, r4, r5, r6⟩ := frE_right bd z1
        have hz := (frC_yes z1).2.2
        rcases List.mem_append.1 hm with hm | hm
        · obtain ⟨k, hk, k1, k2⟩ := upI_mem.1 hm
          have hft : frFrom (file.drop at_) ≤ frTo (file.drop at_) := by unfold frTo; omega
          have h6 := fr_turn bd z1 (j := i - at_) (by omega) (by omega) y0 y1 (by rw [List.length_drop]; omega) hj hyj
          rw [← hd] at h6
          have : ¬ dcFrame ((file.set i y).drop at_) cs last = 0 := by rw [dcFrame_no (by omega), h6]; omega
          rw [dcS_stop c1' this]
          exact this
        · have hge2 := spS_ge _ _ _ _ hm
          obtain ⟨m1, m2, m3, m4⟩ := fr_less bd z1 (((file.drop at_).drop (frZ (file.drop at_)).toNat).set (i - at_ - (frZ (file.drop at_)).toNat) y)
          have e : (file.set i y).drop at_ = (file.drop at_).take (frZ (file.drop at_)).toNat ++ ((file.drop at_).drop (frZ (file.drop at_)).toNat).set (i - at_ - (frZ (file.drop at_)).toNat) y := by
            rw [hd]
            conv => lhs; rw [← List.take_append_drop (frZ (file.drop at_)).toNat (file.drop at_)]
            have hlt : ((file.drop at_).take (frZ (file.drop at_)).toNat).length = (frZ (file.drop at_)).toNat := by rw [List.length_take]; omega
            rw [List.set_append_right _ _ (by rw [hlt]; omega), hlt]
          rw [← e] at m1 m2 m3 m4
          have c2' : dcFrame ((file.set i y).drop at_) cs last = 0 := dcFrame_ok m1 (by rw [m2, m3]; exact ⟨z2, z3, z4⟩)
          rw [dcS_frame c1' c2', m2, m4, show dcNext ((file.set i y).drop at_) cs = dcNext (file.drop at_) cs by unfold dcNext; rw [m2, m3]]
          have hzn : at_ + frTo (file.drop at_) + 4 = at_ + (frZ (file.drop at_)).toNat := by rw [hz]; omega
          rw [hzn] at hm
          rw [List.length_drop] at r6
          exact turn_dcS b hl hi y0 y1 hy f _ _ _ _ (by omega) (by omega) h0 hm
      · rw [dcS_stop c1 c2] at h0; exact absurd h0 c2
    · have c1' : ¬ (at_ < (file.set i y).length ∧ ((file.set i y).drop at_).getD 0 0 = 66) := by rw [hls, hg0]; exact c1
      rw [spS_end c1] at hm
      rw [dcS_end c1] at h0
      by_cases c3 : dcEnd file at_ cs n = 0
      · obtain ⟨e1, e2, e3, e4, e5⟩ := dcEnd_zero c3
        obtain ⟨k, hk, k1, k2⟩ := upI_mem.1 hm
        rw [dcS_end c1']
        have c4 : dcEnd (file.set i y) at_ cs n = 6 := by
          unfold dcEnd
          rw [hd, List.length_set, getD_set_ne (by omega), getD_set_ne (by omega), getD_set_ne (by omega), if_pos ⟨e1, e2⟩, if_pos ⟨e3, e4⟩, if_neg]
          rw [take_set_ge (by omega), drop_set_ge (by omega), e5]
          intro e
          have hj3 : i - at_ - 3 < ((file.drop at_).drop 3).length := by rw [List.length_drop]; omega
          refine set_ne_self hj3 ?_ e.symm
          rw [List.getElem_drop]
          have : 3 + (i - at_ - 3) = i - at_ := by omega
          simp only [this]
          exact hyj
        rw [c4]; simp
      · rw [if_neg c3] at h0; exact absurd h0 c3
/-- A right file in which a byte is turned, of those that are told, is none. -/
theorem turn_bad {file : List Int} (b : B8 file) (h : (dc file).1 = 0) {i : Nat} (hi : i < file.length) {y : Int} (y0 : 0 ≤ y) (y1 : y < 256) (hy : y ≠ file[i]) (hm : (i : Int) ∈ spS (file.length + 1) file 2) : ¬ (dc (file.set i y)).1 = 0 := by
  obtain ⟨l1, k⟩ := dc_len h
  have hge := spS_ge _ _ _ _ hm
  rw [dc_go l1 k] at h
  obtain ⟨k1, k2, k3, k4⟩ := k
  have g0 : (file.set i y).getD 0 0 = file.getD 0 0 := getD_set_ne (by omega)
  have g1 : (file.set i y).getD 1 0 = file.getD 1 0 := getD_set_ne (by omega)
  rw [dc_go (by rw [List.length_set]; exact l1) ⟨by rw [List.length_set]; exact k1, by rw [g0]; exact k2, by rw [g1]; exact k3, by rw [g1]; exact k4⟩, g1, List.length_set]
  exact turn_dcS b l1 hi y0 y1 hy _ _ _ _ _ k1 (by omega) h hm
end Go.Proofs.YtldepledinolmaaGreatDoor
namespace Go.Proofs.YtldepledinolmaaGreatDoor
open Go.RowKit

/-- A right file's reading goes on: a frame, or the end. -/
theorem dcS_frame_of {f : Nat} {file : List Int} {at_ : Nat} {cs : List (List Ev)} {last : Int} {n : Nat} (b : B8 file) (h0 : (dcS (f + 1) file at_ cs last n).1 = 0) (h : at_ < file.length ∧ (file.drop at_).getD 0 0 = 66) :
    frHd (file.drop at_) ∧ at_ + frTo (file.drop at_) + 4 ≤ file.length ∧ frFrom (file.drop at_) ≤ frTo (file.drop at_) ∧ frTo (file.drop at_) ≤ 2000000 + file.length ∧ ∃ cs' last', (dcS f file (at_ + frTo (file.drop at_) + 4) cs' last' (n + 1)).1 = 0 := by
  by_cases c2 : dcFrame (file.drop at_) cs last = 0
  · rw [dcS_frame h c2] at h0
    obtain ⟨z1, z2, z3, z4⟩ := dcFrame_zero c2
    obtain ⟨r1, r2, r3, r4, r5, r6⟩ := frE_right (b.drop at_) z1
    have hz := (frC_yes z1).2.2
    rw [List.length_drop] at r6
    have hH := (frC_zero z1).1
    have he : at_ + (frZ (file.drop at_)).toNat = at_ + frTo (file.drop at_) + 4 := by rw [hz]; omega
    rw [he] at h0
    refine ⟨hH, by omega, by unfold frTo; omega, by omega, _, _, h0⟩
  · rw [dcS_stop h c2] at h0; exact absurd h0 c2
theorem dcS_end_of {f : Nat} {file : List Int} {at_ : Nat} {cs : List (List Ev)} {last : Int} {n : Nat} (h0 : (dcS (f + 1) file at_ cs last n).1 = 0) (h : ¬ (at_ < file.length ∧ (file.drop at_).getD 0 0 = 66)) :
    at_ + 7 = file.length ∧ file.getD (file.length - 6) 0 = n := by
  rw [dcS_end h] at h0
  by_cases c3 : dcEnd file at_ cs n = 0
  · obtain ⟨e1, e2, e3, _⟩ := dcEnd_zero c3
    rw [List.length_drop] at e1
    have hl : at_ + 7 = file.length := by omega
    refine ⟨hl, ?_⟩
    rw [List.getD_eq_getElem?_getD, List.getElem?_drop] at e3
    rw [List.getD_eq_getElem?_getD, show file.length - 6 = at_ + 1 by omega]
    exact e3
  · rw [if_neg c3] at h0; exact absurd h0 c3
theorem dcS_in {f : Nat} {file : List Int} {at_ : Nat} {cs : List (List Ev)} {last : Int} {n : Nat} (h0 : (dcS (f + 1) file at_ cs last n).1 = 0) : at_ < file.length := by
  by_cases h : at_ < file.length ∧ (file.drop at_).getD 0 0 = 66
  · exact h.1
  · have := (dcS_end_of h0 h).1; omega
/-- No more frames than are told. -/
theorem dcS_count : ∀ (f : Nat) (file : List Int) (at_ : Nat) (cs : List (List Ev)) (last : Int) (n : Nat), B8 file → at_ ≤ file.length → file.length + 1 ≤ f + at_ → (dcS f file at_ cs last n).1 = 0 → (n : Int) ≤ file.getD (file.length - 6) 0
  | 0, _, _, _, _, _, _, h1, h2, _ => by omega
  | f + 1, file, at_, cs, last, n, b, h1, h2, h0 => by
    by_cases h : at_ < file.length ∧ (file.drop at_).getD 0 0 = 66
    · obtain ⟨a1, a2, a3, a4, cs', last', h3⟩ := dcS_frame_of b h0 h
      have := dcS_count f file _ cs' last' (n + 1) b a2 (by omega) h3
      omega
    · rw [(dcS_end_of h0 h).2]; exact Int.le_refl _
/-- There is a frame more just if fewer have come than are told. -/
theorem dcS_more {f : Nat} {file : List Int} {at_ : Nat} {cs : List (List Ev)} {last : Int} {n N : Nat} (b : B8 file) (h1 : at_ ≤ file.length) (h2 : file.length + 1 ≤ f + 1 + at_) (h0 : (dcS (f + 1) file at_ cs last n).1 = 0) (hN : file.getD (file.length - 6) 0 = (N : Int)) : n ≤ N ∧ ((at_ < file.length ∧ (file.drop at_).getD 0 0 = 66) ↔ n < N) := by
  have hc := dcS_count (f + 1) file at_ cs last n b h1 h2 h0
  refine ⟨by omega, fun h => ?_, fun h => ?_⟩
  · obtain ⟨a1, a2, a3, a4, cs', last', h3⟩ := dcS_frame_of b h0 h
    have := dcS_count f file _ cs' last' (n + 1) b a2 (by omega) h3
    omega
  · by_cases hh : at_ < file.length ∧ (file.drop at_).getD 0 0 = 66
    · exact hh
    · have := (dcS_end_of h0 hh).2
      omega
theorem filL_count {b : Nat} (t : List (List Ev)) : (filL b t).getD ((filL b t).length - 6) 0 = (filN b t : Int) := by
  have e : filL b t = ([67, (t.length : Int)] ++ filF b 0 t) ++ ([69, (filN b t : Int), (sumT t : Int)] ++ fourL (crcV (hdF b t))) := by
    rw [← List.append_assoc]
    rfl
  rw [e]
  generalize [67, (t.length : Int)] ++ filF b 0 t = P
  have l4 := fourL_length (crcV (hdF b t))
  have hl : (P ++ ([69, (filN b t : Int), (sumT t : Int)] ++ fourL (crcV (hdF b t)))).length - 6 = P.length + 1 := by rw [List.length_append, List.length_append, l4]; simp only [List.length_cons, List.length_nil]; omega
  rw [hl, List.getD_eq_getElem?_getD, List.getElem?_append_right (by omega), Nat.add_sub_cancel_left]
  rfl
/-- A right trace's file: where its reading begins. -/
theorem filL_start {b : Nat} (hb : 1 ≤ b) {t : List (List Ev)} (h : trF t = 0) : ∃ cs last, (dcS ((filL b t).length + 1) (filL b t) 2 cs last 0).1 = 0 ∧ 2 ≤ (filL b t).length := by
  have hd : (dc (filL b t)).1 = 0 := by rw [dc_back h hb]
  obtain ⟨h1, h2⟩ := dc_len hd
  rw [dc_go h1 h2] at hd
  exact ⟨_, _, hd, h2.1⟩
theorem spL_ok {t : List (List Ev)} {b : Int} (h : fcC t b = 0) : spL t b = spS ((filL b.toNat t).length + 1) (filL b.toNat t) 2 := if_pos h
theorem spL_no {t : List (List Ev)} {b : Int} (h : ¬ fcC t b = 0) : spL t b = [] := if_neg h
theorem spS_len : ∀ (f : Nat) (file : List Int) (at_ : Nat), B8 file → (∃ cs last n, (dcS f file at_ cs last n).1 = 0) → at_ ≤ file.length → (spS f file at_).length ≤ file.length - at_
  | 0, file, at_, _, _, _ => by simp [spS]
  | f + 1, file, at_, b, ⟨cs, last, n, h0⟩, hat => by
    by_cases h : at_ < file.length ∧ (file.drop at_).getD 0 0 = 66
    · obtain ⟨a1, a2, a3, a4, cs', last', h3⟩ := dcS_frame_of b h0 h
      have := spS_len f file _ b ⟨_, _, _, h3⟩ a2
      rw [spS_frame h, List.length_append, upI_len]
      omega
    · have := (dcS_end_of h0 h).1
      rw [spS_end h, upI_len]
      omega
theorem upI_add (a m n : Nat) : upI a (m + n) = upI a m ++ upI (a + m) n := by
  unfold upI
  rw [← List.map_append, List.range'_append_1]
end Go.Proofs.YtldepledinolmaaGreatDoor
namespace Go.Proofs.YtldepledinolmaaGreatDoor
open Go.RowKit

theorem field_trc (a : Int) (D : Option Addr) (n d : Nat) (W : World) : (Instr.field 41 (.agg #[.int .i64 a, .slice D n d]) 0).run Tryz.prog W = .ok (.int .i64 a) W := by kernel_rfl
theorem take_len {l : List Int} {k : Nat} (h : k ≤ l.length) : (l.take k).length = k := by rw [List.length_take]; omega
theorem filL_few {b : Nat} (hb : 1 ≤ b) {t : List (List Ev)} (h : trF t = 0) : (filL b t).length ≤ 841 := by
  have := hdF_len hb h
  unfold filL
  rw [List.length_append, fourL_length]
  omega
theorem filL_B8 {b : Nat} (hb : 1 ≤ b) {t : List (List Ev)} (h : trF t = 0) : B8 (filL b t) := by
  have := hdF_B8 hb h
  unfold filL
  exact this.append (fourL_B8 (crcV_bd this))
theorem fcB_ok {t : List (List Ev)} {b : Int} (h : fcC t b = 0) : fcB t b = filL b.toNat t := if_pos h

set_option maxRecDepth 100000 in
set_option maxHeartbeats 400000 in
theorem canBe_any (file : List Int) (A : Option Addr) (c : Nat) (aN aS aE : Addr) (w : World) (hm : file.length ≤ 1048576) (hc : file.length ≤ c) (hR : Rd .u8 w w.heap.size A file) (b8 : B8 file) (hT : Tab w) (hS : Sent aN aS aE w) :
    Calls Tryz.prog 55 #[.slice A file.length c] w fun e w' => e = .returned (.bool ((dc file).1 == 0)) ∧ Below w.heap.size w w' := by
  have DT := hide (implDec_any file A c aN aS aE w hm hc hR b8 hT hS)
  unfold DtPost at DT
  obtain ⟨C, hC⟩ : ∃ C, C = (dc file).1 := ⟨_, rfl⟩
  rw [← hC] at DT ⊢
  have hf := field_trc C
  clear hC
  go_enter Tryz.func55, Tryz.ntmps55
  go_wp2_with fail
  refine DT.out.mono ?_
  rintro e w1 ⟨D, d, us, rfl, o1, b1⟩
  go_wp2
  go_ret
  exact ⟨rfl, b1⟩

end Go.Proofs.YtldepledinolmaaGreatDoor
namespace Go.Proofs.YtldepledinolmaaGreatDoor
open Go.RowKit

end Go.Proofs.YtldepledinolmaaGreatDoor
