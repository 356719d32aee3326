/- Plain mathematics of frames: what is laid is read back, and what is read lays the bytes again. Plain mathematics of files: a file that was laid is read back. -/
import Derived.Test.YtldepledinolmaaGreatDoorFrMath
import Derived.Test.YtldepledinolmaaGreatDoorGBase
import Derived.Test.YtldepledinolmaaGreatDoorGFil
namespace Go.Proofs.YtldepledinolmaaGreatDoor
open Go.RowKit

theorem packL_pos {es : List Ev} (h : 0 < es.length) : 0 < (packL 0 es).length := by
  rcases es with _ | ⟨x, es⟩
  · simp at h
  · unfold packL
    rw [List.length_append]
    unfold evB
    have := putL_pos x.v
    rw [List.length_append]
    omega

/-- A frame's bytes, whatever stands behind them, are read back as the frame. -/
theorem fr_back {k : Int} {es : List Ev} (h : frF k es = 0) (d : List Int) :
    frC (frB k es ++ d) = 0 ∧ frK (frB k es ++ d) = k ∧ frE (frB k es ++ d) = es ∧ frZ (frB k es ++ d) = ((frB k es).length : Nat) := by
  obtain ⟨k0, k3, hpos, hst⟩ := frF_zero h
  have hpp := packL_pos hpos
  have hpl := packL_len8 hst
  have hun := un_pack hst
  have hpk : pkB es = packL 0 es := pk_ok hst
  rw [hpk] at hun
  rw [frB_ok h]
  obtain ⟨p, hp⟩ : ∃ p, p = packL 0 es := ⟨_, rfl⟩
  rw [← hp] at hpp hpl hun ⊢
  clear hp hpk h hst hpos
  obtain ⟨S, hS⟩ : ∃ S, S = fourL (crcV (hdL k p)) := ⟨_, rfl⟩
  have lS : S.length = 4 := by rw [hS]; exact fourL_length _
  have hD : frL k p ++ d = 66 :: k :: (putL (p.length : Int) ++ (p ++ (S ++ d))) := by
    unfold frL
    rw [← hS]
    unfold hdL
    simp [List.append_assoc]
  obtain ⟨r1, r2, r3⟩ := rd_app (p.length : Int) (p ++ (S ++ d)) (by omega) (by omega)
  have hd2 : (frL k p ++ d).drop 2 = putL (p.length : Int) ++ (p ++ (S ++ d)) := by rw [hD]; rfl
  have hF : frFrom (frL k p ++ d) = 2 + (putL (p.length : Int)).length := by unfold frFrom; rw [hd2, r3]; simp
  have hT : frTo (frL k p ++ d) = 2 + (putL (p.length : Int)).length + p.length := by unfold frTo; rw [hF, hd2, r2]; simp
  have lh : (hdL k p).length = 2 + (putL (p.length : Int)).length + p.length := by unfold hdL; rw [List.length_append, List.length_append]; simp
  have hL : frL k p ++ d = hdL k p ++ (S ++ d) := by unfold frL; rw [← hS, List.append_assoc]
  have hlen : (frL k p).length = 2 + (putL (p.length : Int)).length + p.length + 4 := by unfold frL; rw [List.length_append, lh, fourL_length]
  have tk : (frL k p ++ d).take (frTo (frL k p ++ d)) = hdL k p := by
    rw [hT, ← lh, hL]; exact List.take_left
  have dr : (frL k p ++ d).drop (frTo (frL k p ++ d)) = S ++ d := by
    rw [hT, ← lh, hL]; exact List.drop_left
  have hH : frHd (frL k p ++ d) := by
    refine ⟨by rw [List.length_append, hlen]; omega, by rw [hD]; rfl, ?_, by rw [hd2]; exact r1, by rw [hd2, r2]; omega, by rw [hd2, r2]; omega, by rw [hT, List.length_append, hlen]; omega⟩
    rw [hD]
    show k < 4
    omega
  have hQ : frSum (frL k p ++ d) := by
    unfold frSum
    rw [tk, dr, ← hS, ← lS]
    exact List.take_left.symm
  have hP : frPay (frL k p ++ d) = p := by
    unfold frPay
    rw [tk, hF]
    unfold hdL
    have : ([66, k] ++ putL (p.length : Int)).length = 2 + (putL (p.length : Int)).length := by rw [List.length_append]; simp
    rw [← this]
    exact List.drop_left
  have hC := frC_ok hH hQ (by rw [hP]; exact hun.1)
  obtain ⟨y1, y2, y3⟩ := frC_yes hC
  refine ⟨hC, ?_, by rw [y1, hP]; exact hun.2, by rw [y3, hT, hlen]; omega⟩
  rw [y2, hD]
  rfl

theorem take_more (d : List Int) (m n : Nat) : d.take (m + n) = d.take m ++ (d.drop m).take n := List.take_add
/-- What is read as a frame lays the bytes that it was read from. -/
theorem fr_again {d : List Int} (b : B8 d) (h : frC d = 0) : frB (frK d) (frE d) = d.take (frZ d).toNat ∧ 1 ≤ frZ d ∧ frZ d ≤ d.length := by
  obtain ⟨hH, hQ, hU⟩ := frC_zero h
  obtain ⟨y1, y2, y3⟩ := frC_yes h
  have hpl := frPay_len d hH
  obtain ⟨u1, u2, u3⟩ : pkB (unE (frPay d)) = frPay d ∧ stF (unE (frPay d)) = 0 ∧ (frPay d).length ≤ 4000 := pack_un ((b.take _).drop _) hU
  obtain ⟨h0, h1, h2, h3, h4, h5, h6⟩ := hH
  obtain ⟨z1, z2, z3, z4, z5⟩ := rd_back (b.drop 2) h3
  have hk : d.getD 1 0 = d[1] := by simp [show 1 < d.length by omega]
  have hz : d.getD 0 0 = d[0] := by simp [show 0 < d.length by omega]
  have bk := b.get 1 (by omega)
  rw [← hk] at bk
  have hpk : packL 0 (unE (frPay d)) = frPay d := by rw [← pk_ok u2]; exact u1
  have hne : 0 < (unE (frPay d)).length := by
    rcases he : unE (frPay d) with _ | ⟨x, es⟩
    · rw [he] at hpk
      have := congrArg List.length hpk
      rw [hpl] at this
      simp [packL] at this
      omega
    · simp
  have hF := frF_of bk.1 (by omega) hne u2
  have t2 : d.take 2 = [66, d.getD 1 0] := by
    rw [hk]
    rw [hz] at h1
    rcases d with _ | ⟨x, _ | ⟨y, d⟩⟩
    · simp at h0
    · simp at h0
    · simp at h1 ⊢; exact h1
  have tT : hdL (d.getD 1 0) (frPay d) = d.take (frTo d) := by
    have e1 : d.take (frTo d) = d.take (frFrom d) ++ frPay d := by
      unfold frPay
      have := (List.take_append_drop (frFrom d) (d.take (frTo d))).symm
      rw [List.take_take, Nat.min_eq_left (by unfold frTo; omega)] at this
      exact this
    have e2 : d.take (frFrom d) = [66, d.getD 1 0] ++ putL (rdV (d.drop 2)) := by
      unfold frFrom
      rw [take_more, t2, z5]
    unfold hdL
    rw [e1, e2, hpl, Int.toNat_of_nonneg z3]
  have hLL : frL (d.getD 1 0) (frPay d) = d.take (frTo d + 4) := by
    unfold frL
    rw [tT, take_more]
    unfold frSum at hQ
    rw [hQ]
  refine ⟨?_, by rw [y3]; omega, by rw [y3]; omega⟩
  rw [y1, y2, y3, frB_ok hF, hpk, hLL]
  congr 1
end Go.Proofs.YtldepledinolmaaGreatDoor
namespace Go.Proofs.YtldepledinolmaaGreatDoor
open Go.RowKit

theorem frB_head {k : Int} {es : List Ev} (h : frF k es = 0) (d : List Int) : (frB k es ++ d).getD 0 0 = 66 := by
  rw [frB_ok h]
  unfold frL hdL
  simp
theorem frB_pos {k : Int} {es : List Ev} (h : frF k es = 0) : 0 < (frB k es).length := by
  rw [frB_ok h]
  unfold frL hdL
  simp
theorem set_same {α : Type} {l : List α} {i : Nat} {x : α} (h : l[i]? = some x) : l.set i x = l := by
  apply List.ext_getElem?
  intro j
  by_cases hj : i = j
  · subst hj
    have hl : i < l.length := by
      rcases Nat.lt_or_ge i l.length with a | a
      · exact a
      · rw [List.getElem?_eq_none a] at h; cases h
    rw [List.getElem?_set_self hl, h]
  · rw [List.getElem?_set_ne hj]

/-- The frames of one core's pieces are read one by one. -/
theorem dcS_pieces (i : Nat) (hi3 : i ≤ 3) : ∀ (ps : List (List Ev)) (pre rest : List Int) (cs : List (List Ev)) (acc : List Ev) (last : Int) (n f : Nat),
    (∀ p ∈ ps, stF p = 0 ∧ 0 < p.length) → cs[i]? = some acc → acc.length + ps.flatten.length ≤ 8 → last ≤ i →
    ∃ last' : Int, last' ≤ i ∧ dcS (ps.length + f) (pre ++ (pcsB i ps ++ rest)) pre.length cs last n = dcS f (pre ++ (pcsB i ps ++ rest)) (pre.length + (pcsB i ps).length) (cs.set i (acc ++ ps.flatten)) last' (n + ps.length)
  | [], pre, rest, cs, acc, last, n, f, _, hcs, _, hlast => by
    refine ⟨last, hlast, ?_⟩
    simp only [List.length_nil, Nat.zero_add, pcsB, Nat.add_zero, List.flatten_nil, List.append_nil]
    rw [set_same hcs]
  | p :: ps, pre, rest, cs, acc, last, n, f, hps, hcs, h8, hlast => by
    obtain ⟨hp, hp0⟩ := hps p (List.mem_cons_self ..)
    have hF : frF (i : Int) p = 0 := frF_of (by omega) (by omega) hp0 hp
    have hil : i < cs.length := by
      rcases Nat.lt_or_ge i cs.length with a | a
      · exact a
      · rw [List.getElem?_eq_none a] at hcs; cases hcs
    obtain ⟨X, hX⟩ : ∃ X, X = frB (i : Int) p := ⟨_, rfl⟩
    have hpc : pcsB i (p :: ps) = X ++ pcsB i ps := by rw [hX, frB_ok hF]; rfl
    have hfile : pre ++ (pcsB i (p :: ps) ++ rest) = (pre ++ X) ++ (pcsB i ps ++ rest) := by rw [hpc]; simp [List.append_assoc]
    have hdrop : (pre ++ (pcsB i (p :: ps) ++ rest)).drop pre.length = X ++ (pcsB i ps ++ rest) := by rw [List.drop_left, hpc, List.append_assoc]
    obtain ⟨b1, b2, b3, b4⟩ := fr_back hF (pcsB i ps ++ rest)
    have hhd := frB_head hF (pcsB i ps ++ rest)
    have hpos := frB_pos hF
    rw [← hX] at b1 b2 b3 b4 hhd hpos
    rw [← hdrop] at b1 b2 b3 b4 hhd
    have hget : cs.getD i [] = acc := by rw [List.getD_eq_getElem?_getD, hcs]; rfl
    have hfl : (p :: ps).flatten.length = p.length + ps.flatten.length := by simp
    have hdc : dcFrame ((pre ++ (pcsB i (p :: ps) ++ rest)).drop pre.length) cs last = 0 := by
      refine dcFrame_ok b1 ⟨by rw [b2]; omega, by rw [b2]; exact hlast, ?_⟩
      rw [b2, b3, Int.toNat_natCast, hget]
      omega
    have hat : pre.length < (pre ++ (pcsB i (p :: ps) ++ rest)).length ∧ ((pre ++ (pcsB i (p :: ps) ++ rest)).drop pre.length).getD 0 0 = 66 := by
      refine ⟨?_, hhd⟩
      rw [hpc, List.length_append, List.length_append, List.length_append]
      omega
    have hnext : dcNext ((pre ++ (pcsB i (p :: ps) ++ rest)).drop pre.length) cs = cs.set i (acc ++ p) := by
      unfold dcNext
      rw [b2, b3, Int.toNat_natCast, hget]
    obtain ⟨last', hl', hih⟩ := dcS_pieces i hi3 ps (pre ++ X) rest (cs.set i (acc ++ p)) (acc ++ p) (i : Int) (n + 1) f (fun q hq => hps q (List.mem_cons_of_mem _ hq)) (List.getElem?_set_self hil) (by rw [List.length_append]; omega) (Int.le_refl _)
    refine ⟨last', hl', ?_⟩
    rw [show (p :: ps).length + f = (ps.length + f) + 1 by simp; omega, dcS_frame hat hdc, hnext, b2, b4, Int.toNat_natCast]
    rw [← hfile, List.length_append, List.set_set] at hih
    rw [hih, hpc, List.length_append, List.flatten_cons, List.append_assoc acc, List.append_assoc, List.length_cons, Nat.add_assoc, Nat.add_assoc n 1, Nat.add_comm 1]

/-- The frames of a trace are read core by core. -/
theorem dcS_cores {b : Nat} (hb : 1 ≤ b) : ∀ (r : List (List Ev)) (i : Nat) (pre rest : List Int) (done : List (List Ev)) (last : Int) (n f : Nat),
    done.length = i → i + r.length ≤ 4 → (∀ l ∈ r, stF l = 0) → last ≤ i →
    ∃ last' : Int, dcS (filN b r + f) (pre ++ (filF b i r ++ rest)) pre.length (done ++ List.replicate r.length []) last n = dcS f (pre ++ (filF b i r ++ rest)) (pre.length + (filF b i r).length) (done ++ r) last' (n + filN b r)
  | [], i, pre, rest, done, last, n, f, _, _, _, _ => ⟨last, by simp [filN, filF]⟩
  | l :: r, i, pre, rest, done, last, n, f, hd, h4, hall, hlast => by
    have hl := hall l (List.mem_cons_self ..)
    have hl8 := (stF_zero hl).1
    have hfl : (chopA b l).flatten = l := chop_flat hb _ _ (Nat.le_refl _)
    have hps : ∀ p ∈ chopA b l, stF p = 0 ∧ 0 < p.length := fun p hp => ⟨chopA_right hb hl p hp, (chop_mem hb _ _ p hp).1⟩
    simp only [List.length_cons] at h4
    have hcs : (done ++ List.replicate (l :: r).length [])[i]? = some ([] : List Ev) := by
      rw [List.getElem?_append_right (by omega), hd, Nat.sub_self, List.length_cons, List.replicate_succ]
      rfl
    have hset : (done ++ List.replicate (l :: r).length []).set i ([] ++ l) = (done ++ [l]) ++ List.replicate r.length [] := by
      rw [List.set_append_right _ _ (by omega), hd, Nat.sub_self, List.length_cons, List.replicate_succ, List.set_cons_zero, List.nil_append, List.append_assoc, List.singleton_append]
    obtain ⟨la, hla, ha⟩ := dcS_pieces i (by omega) (chopA b l) pre (filF b (i + 1) r ++ rest) (done ++ List.replicate (l :: r).length []) [] last n (filN b r + f) hps hcs (by rw [hfl]; simp; exact hl8) hlast
    rw [hfl, hset] at ha
    obtain ⟨lb, hb2⟩ := dcS_cores hb r (i + 1) (pre ++ pcsB i (chopA b l)) rest (done ++ [l]) la (n + (chopA b l).length) f (by simp [hd]) (by omega) (fun x hx => hall x (List.mem_cons_of_mem _ hx)) (by omega)
    refine ⟨lb, ?_⟩
    have hfile : pre ++ (filF b i (l :: r) ++ rest) = pre ++ (pcsB i (chopA b l) ++ (filF b (i + 1) r ++ rest)) := by simp [filF, List.append_assoc]
    have hfile2 : (pre ++ pcsB i (chopA b l)) ++ (filF b (i + 1) r ++ rest) = pre ++ (filF b i (l :: r) ++ rest) := by rw [hfile, List.append_assoc]
    rw [← hfile] at ha
    rw [hfile2, List.length_append] at hb2
    rw [show filN b (l :: r) + f = (chopA b l).length + (filN b r + f) by simp only [filN]; omega, ha, hb2]
    simp only [filF, filN, List.length_append, List.append_assoc, List.singleton_append]
    rw [Nat.add_assoc, Nat.add_assoc]

theorem pcsB_ge (i : Int) : ∀ ps : List (List Ev), ps.length ≤ (pcsB i ps).length
  | [] => by simp [pcsB]
  | p :: r => by
    have := pcsB_ge i r
    unfold pcsB frL hdL
    simp only [List.length_append, List.length_cons, List.length_nil]
    omega
theorem filF_ge (b : Nat) : ∀ (i : Nat) (t : List (List Ev)), filN b t ≤ (filF b i t).length
  | _, [] => by simp [filF, filN]
  | i, l :: r => by
    have h1 := filF_ge b (i + 1) r
    have h2 := pcsB_ge (i : Int) (chopA b l)
    simp only [filF, filN, List.length_append]
    omega
/-- A file that was laid is read back. -/
theorem dc_back {t : List (List Ev)} {b : Nat} (h : trF t = 0) (hb : 1 ≤ b) : dc (filL b t) = (0, t) := by
  obtain ⟨h1, h4, hall⟩ := trF_zero h
  have hlen := hdF_len hb h
  have hge := filF_ge b 0 t
  obtain ⟨F, hF⟩ : ∃ F, F = filF b 0 t := ⟨_, rfl⟩
  obtain ⟨N, hN⟩ : ∃ N, N = filN b t := ⟨_, rfl⟩
  obtain ⟨S4, hS4⟩ : ∃ S4, S4 = fourL (crcV (hdF b t)) := ⟨_, rfl⟩
  have l4 : S4.length = 4 := by rw [hS4]; exact fourL_length _
  obtain ⟨file, hfile⟩ : ∃ file, file = filL b t := ⟨_, rfl⟩
  have hH : hdF b t = [67, (t.length : Int)] ++ (F ++ [69, (N : Int), (sumT t : Int)]) := by rw [hF, hN]; unfold hdF; simp
  have e1 : file = [67, (t.length : Int)] ++ (F ++ ([69, (N : Int), (sumT t : Int)] ++ S4)) := by rw [hfile, hS4]; unfold filL; rw [← hS4, hH]; simp [List.append_assoc]
  have e2 : file = hdF b t ++ S4 := by rw [hfile, hS4]; rfl
  have lf : file.length = 2 + F.length + 3 + 4 := by rw [e1]; simp [l4]; omega
  have lh : (hdF b t).length = 2 + F.length + 3 := by rw [hH]; simp; omega
  rw [← hfile]
  have g0 : file.getD 0 0 = 67 := by rw [e1]; rfl
  have g1 : file.getD 1 0 = (t.length : Int) := by rw [e1]; rfl
  rw [dc_go (by omega) ⟨by omega, g0, by rw [g1]; omega, by rw [g1]; omega⟩, g1, Int.toNat_natCast]
  obtain ⟨la, hc⟩ := dcS_cores hb t 0 [67, (t.length : Int)] ([69, (N : Int), (sumT t : Int)] ++ S4) [] 0 0 (file.length - N + 1) rfl (by omega) hall (by omega)
  rw [← hF, ← hN, ← e1] at hc
  rw [← hF, ← hN] at hge
  have hf : N + (file.length - N + 1) = file.length + 1 := by omega
  rw [hf] at hc
  simp only [List.nil_append, List.length_cons, List.length_nil, Nat.zero_add] at hc
  rw [hc]
  have d1 : file.drop (2 + F.length) = [69, (N : Int), (sumT t : Int)] ++ S4 := by
    rw [e1, ← List.append_assoc, show 2 + F.length = ([67, (t.length : Int)] ++ F).length by simp; omega]
    exact List.drop_left
  have hno : ¬ (2 + F.length < file.length ∧ (file.drop (2 + F.length)).getD 0 0 = 66) := by
    rintro ⟨_, h⟩
    rw [d1] at h
    simp at h
  have htk : file.take (2 + F.length + 3) = hdF b t := by rw [e2, ← lh]; exact List.take_left
  have hend : dcEnd file (2 + F.length) t N = 0 := by
    unfold dcEnd
    rw [if_pos ⟨by rw [d1]; simp [l4], by rw [d1]; rfl⟩, if_pos ⟨by rw [d1]; rfl, by rw [d1]; rfl⟩, if_pos]
    rw [htk, d1, ← hS4]
    rfl
  rw [dcS_end hno, if_pos hend]

theorem stF_app {a b : List Ev} (ha : stF a = 0) (hb : stF b = 0) (h : a.length + b.length ≤ 8) : stF (a ++ b) = 0 := by
  rw [stF_few (by rw [List.length_append]; exact h)]
  refine evsF_of _ fun e he => ?_
  rcases List.mem_append.1 he with h1 | h1
  · exact evsF_all (stF_zero ha).2 e h1
  · exact evsF_all (stF_zero hb).2 e h1
/-- What is read as a file is a right trace. -/
theorem dcS_right : ∀ (f : Nat) (file : List Int) (at_ : Nat) (cs : List (List Ev)) (last : Int) (n : Nat), B8 file → at_ ≤ file.length → file.length + 1 ≤ f + at_ → (∀ l ∈ cs, stF l = 0) → (dcS f file at_ cs last n).1 = 0 →
    (dcS f file at_ cs last n).2.length = cs.length ∧ ∀ l ∈ (dcS f file at_ cs last n).2, stF l = 0
  | 0, _, _, _, _, _, _, _, h, _, _ => by omega
  | f + 1, file, at_, cs, last, n, b8, hat, hf, hall, h0 => by
    by_cases h1 : at_ < file.length ∧ (file.drop at_).getD 0 0 = 66
    · by_cases h2 : dcFrame (file.drop at_) cs last = 0
      · rw [dcS_frame h1 h2] at h0 ⊢
        obtain ⟨c1, c2, c3, c4⟩ := dcFrame_zero h2
        obtain ⟨r1, r2, r3, r4, r5, r6⟩ := frE_right (b8.drop at_) c1
        rw [List.length_drop] at r6
        have hk : (frK (file.drop at_)).toNat < cs.length := by omega
        have hall2 : ∀ l ∈ dcNext (file.drop at_) cs, stF l = 0 := fun l hl => by
          unfold dcNext at hl
          rcases List.mem_or_eq_of_mem_set hl with a | a
          · exact hall l a
          · rw [a]
            refine stF_app ?_ r1 c4
            rw [List.getD_eq_getElem?_getD, List.getElem?_eq_getElem hk]
            exact hall _ (List.getElem_mem hk)
        have := dcS_right f file _ _ _ _ b8 (by omega) (by omega) hall2 h0
        rw [dcNext_length] at this
        exact this
      · rw [dcS_stop h1 h2] at h0
        exact absurd h0 h2
    · rw [dcS_end h1] at h0 ⊢
      by_cases h3 : dcEnd file at_ cs n = 0
      · rw [if_pos h3]; exact ⟨rfl, hall⟩
      · rw [if_neg h3] at h0; exact absurd h0 h3
theorem stsF_of : ∀ {t : List (List Ev)}, (∀ l ∈ t, stF l = 0) → stsF t = 0
  | [], _ => rfl
  | l :: r, h => by rw [stsF, if_pos (h l (List.mem_cons_self ..))]; exact stsF_of fun x hx => h x (List.mem_cons_of_mem _ hx)
theorem dc_right {file : List Int} (b8 : B8 file) (h : (dc file).1 = 0) : trF (dc file).2 = 0 := by
  by_cases h1 : file.length ≤ 2000
  · by_cases h2 : dcHd file
    · rw [dc_go h1 h2] at h ⊢
      obtain ⟨k2, _, kn, k4⟩ := h2
      have := dcS_right (file.length + 1) file 2 (List.replicate (file.getD 1 0).toNat []) 0 0 b8 k2 (by omega) (fun l hl => by rw [List.eq_of_mem_replicate hl]; rfl) h
      rw [List.length_replicate] at this
      unfold trF
      rw [if_pos (by omega)]
      exact stsF_of this.2
    · rw [dc_text h1 h2] at h; simp at h
  · rw [dc_many h1] at h; simp at h
end Go.Proofs.YtldepledinolmaaGreatDoor
