/- The contract of addWrite in the program. -/
import Derived.Test.YtdmdljimbmhecaaInsW
import Derived.Test.YtdmdljimbmhecaaSrchW
import Derived.Test.YtdmdljimbmhecaaGHeld
import Derived.Test.YtdmdljimbmhecaaGBuf
namespace Go.Proofs.Ytdmdljimbmhecaa
open Go.RowKit

/-- Only rows of us are turned, and new memory. -/
structure Spare (us : List Value) (w w' : World) : Prop where
  os : w'.os = w.os
  tape : w'.tape = w.tape
  output : w'.output = w.output
  size : w.heap.size ≤ w'.heap.size
  block : ∀ g, g < w.heap.size → (∀ u ∈ us, u.ownBlock ≠ some g) → w'.heap[g]? = w.heap[g]?
section
variable {w w1 w' : World} {us : List Value} {base : Nat} {v : Value} {os : List Wls}
theorem Spare.refl (us : List Value) (w : World) : Spare us w w := ⟨rfl, rfl, rfl, Nat.le_refl _, fun _ _ _ => rfl⟩
theorem Spare.more {row : Option Nat} (h : Spare us w w1) (hg : w1.grownBy w' row) (hr : ∀ g, row = some g → (∃ u ∈ us, u.ownBlock = some g) ∨ w.heap.size ≤ g) : Spare us w w' :=
  ⟨hg.os.trans h.os, hg.tape.trans h.tape, hg.output.trans h.output, Nat.le_trans h.size hg.size, fun g hl hn => (hg.block g (Nat.lt_of_lt_of_le hl h.size) (fun e => by
    rcases hr g e.symm with ⟨u, hu, e2⟩ | hge
    · exact hn u hu e2
    · omega)).trans (h.block g hl hn)⟩
theorem Spare.of_below (h : Below w.heap.size w w') : Spare us w w' := ⟨h.os, h.tape, h.output, h.size, fun g hl _ => h.block g hl⟩
theorem Spare.then_ (h : Spare us w w1) (hb : Below w1.heap.size w1 w') : Spare us w w' := h.more (row := none) ⟨hb.os, hb.tape, hb.output, hb.size, fun k hk _ => hb.block k hk⟩ (fun g e => by cases e)
theorem Spare.bk {g : Nat} {cs : Array Value} {t : TypeId} (h : Spare us w w') (hb : Bk w g cs t) (hn : ∀ u ∈ us, u.ownBlock ≠ some g) : Bk w' g cs t := (h.block g hb.lt hn).trans hb
theorem Spare.below {B : Nat} (h : Spare us w w') (hB : B ≤ w.heap.size) (hu : ∀ u ∈ us, ∀ b, u.ownBlock = some b → B ≤ b) : Below B w w' := ⟨h.os, h.tape, h.output, h.size, fun k hk => h.block k (by omega) fun u hu' e => by have := hu u hu' k e; omega⟩
theorem wlR_insert : ∀ {os : List Wls} {us : List Value}, us.length = os.length → ∀ (i : Nat) (_ : i ≤ os.length) (x : Wls) (u : Value), wlR (os.take i ++ x :: os.drop i) (us.take i ++ u :: us.drop i) = (wlR os us).take (i * 2) ++ [.int .i64 x.a, u] ++ (wlR os us).drop (i * 2)
  | os, us, _, 0, _, x, u => by simp [wlR]
  | [], _, _, i + 1, hi, _, _ => by simp at hi
  | _ :: _, [], h, _ + 1, _, _, _ => by simp at h
  | y :: r, v :: us, h, i + 1, hi, x, u => by
    have := wlR_insert (os := r) (us := us) (by simpa using h) i (by simpa using hi) x u
    rw [show (i + 1) * 2 = i * 2 + 1 + 1 by omega]
    simp only [List.take_succ_cons, List.drop_succ_cons, List.cons_append, wlR] at this ⊢
    rw [this]
theorem getElem?_ins {α : Type} (l : List α) (i : Nat) (hi : i ≤ l.length) (x : α) (j : Nat) : (l.take i ++ x :: l.drop i)[j]? = if j < i then l[j]? else if j = i then some x else l[j - 1]? := by
  have hl : (l.take i).length = i := by rw [List.length_take]; omega
  by_cases h1 : j < i
  · rw [if_pos h1, List.getElem?_append_left (by omega), List.getElem?_take_of_lt h1]
  · rw [if_neg h1, List.getElem?_append_right (by omega), hl]
    by_cases h2 : j = i
    · subst h2; rw [if_pos rfl, Nat.sub_self]; rfl
    · rw [if_neg h2, show j - i = (j - i - 1) + 1 by omega, List.getElem?_cons_succ, List.getElem?_drop]
      congr 1
      omega
/-- A list without ids put in. -/
theorem OwnW.insert {v' : Value} {i : Nat} {a : Int} (h : OwnW w base v os us) (hi : i ≤ os.length) (ho : w'.ownsRow base 82 2 v' (os.length + 1) ((wlR os us).take (i * 2) ++ [.int .i64 a, .slice none 0 0] ++ (wlR os us).drop (i * 2))) (hg : w.grownBy w' v.ownBlock) :
    OwnW w' base v' (os.take i ++ ⟨a, []⟩ :: os.drop i) (us.take i ++ .slice none 0 0 :: us.drop i) := by
  have hl : (os.take i ++ ⟨a, []⟩ :: os.drop i).length = os.length + 1 := by simp only [List.length_append, List.length_cons, List.length_take, List.length_drop]; omega
  have hul : i ≤ us.length := by rw [h.len]; exact hi
  refine ⟨by rw [hl, wlR_insert h.len i hi]; exact ho, by rw [hl]; simp only [List.length_append, List.length_cons, List.length_take, List.length_drop, h.len]; omega, fun j hj => ?_, ?_⟩
  · have hget := getElem?_ins os i hi ⟨a, []⟩ j
    have hget2 := getElem?_ins us i hul (.slice none 0 0) j
    rw [List.getElem?_eq_getElem hj] at hget
    rw [hl] at hj
    have keep : ∀ (k : Nat) (hk : k < os.length), ∃ u, us[k]? = some u ∧ w'.ownsRow base 96 2 u os[k].ids.length (cels (wids os[k].ids)) := fun k hk => by
      obtain ⟨u, h1, h2⟩ := h.rows k hk
      exact ⟨u, h1, h2.kept hg (own_sep fun b hb e => h.far h1 b hb e)⟩
    by_cases h1 : j < i
    · rw [if_pos h1] at hget hget2
      obtain ⟨u, g1, g2⟩ := keep j (by omega)
      rw [List.getElem?_eq_getElem (by omega), Option.some.injEq] at hget
      exact ⟨u, hget2.trans g1, by rw [hget]; exact g2⟩
    · rw [if_neg h1] at hget hget2
      by_cases h2 : j = i
      · rw [if_pos h2, Option.some.injEq] at hget
        rw [if_pos h2] at hget2
        exact ⟨_, hget2, by rw [hget]; exact World.ownsRow_nil _ _ _ _⟩
      · rw [if_neg h2] at hget hget2
        obtain ⟨u, g1, g2⟩ := keep (j - 1) (by omega)
        rw [List.getElem?_eq_getElem (by omega), Option.some.injEq] at hget
        exact ⟨u, hget2.trans g1, by rw [hget]; exact g2⟩
  · intro p q x y hpq hx hy b hb e
    rw [getElem?_ins us i hul] at hx hy
    have key : ∀ (p : Nat) (x : Value), (if p < i then us[p]? else if p = i then some (.slice none 0 0) else us[p - 1]?) = some x → x.ownBlock = some b → ∃ k, us[k]? = some x ∧ ((p < i ∧ k = p) ∨ (i < p ∧ k = p - 1)) := by
      intro p x hx hb
      by_cases h1 : p < i
      · rw [if_pos h1] at hx; exact ⟨p, hx, .inl ⟨h1, rfl⟩⟩
      · rw [if_neg h1] at hx
        by_cases h2 : p = i
        · rw [if_pos h2] at hx; cases hx; cases hb
        · rw [if_neg h2] at hx; exact ⟨p - 1, hx, .inr ⟨by omega, rfl⟩⟩
    obtain ⟨k, k1, k2⟩ := key p x hx hb
    obtain ⟨l, l1, l2⟩ := key q y hy e
    exact h.apart k l x y (by omega) k1 l1 b hb e
end
theorem insW_yes {a : Int} {x : Wid} : ∀ {os : List Wls} {i : Nat} (_ : FoundW os a i true) (hi : i < os.length), insW a x os = os.set i ⟨os[i].a, os[i].ids ++ [x]⟩
  | [], i, _, hi => by simp at hi
  | w :: r, 0, h, _ => by
    obtain ⟨_, e⟩ := h.yes
    simp only [List.getElem_cons_zero] at e
    rw [insW, if_neg (by omega), if_pos e]
    simp [e]
  | w :: r, i + 1, h, hi => by
    have h0 := h.low 0 (by simp) (by omega)
    simp only [List.getElem_cons_zero] at h0
    have ht : FoundW r a i true := ⟨by have := h.le; simpa using this, fun p hp hpi => by have := h.low (p + 1) (by simpa using hp) (by omega); simpa using this, fun p hp hpi => by have := h.high (p + 1) (by simpa using hp) (by omega); simpa using this, by have := h.hit; simpa using this⟩
    rw [insW, if_neg (by omega), if_neg (by omega), insW_yes ht (by simpa using hi)]
    simp
theorem insW_no {a : Int} {x : Wid} : ∀ {os : List Wls} {i : Nat} (_ : FoundW os a i false), insW a x os = os.take i ++ ⟨a, [x]⟩ :: os.drop i
  | [], i, h => by simp [insW]
  | w :: r, 0, h => by
    have h1 := h.high 0 (by simp) (by omega)
    simp only [List.getElem_cons_zero] at h1
    have h2 : w.a ≠ a := fun e => by have := h.hit.2 ⟨w, rfl, e⟩; cases this
    rw [insW, if_pos (by omega)]
    simp
  | w :: r, i + 1, h => by
    have h0 := h.low 0 (by simp) (by omega)
    simp only [List.getElem_cons_zero] at h0
    have ht : FoundW r a i false := ⟨by have := h.le; simpa using this, fun p hp hpi => by have := h.low (p + 1) (by simpa using hp) (by omega); simpa using this, fun p hp hpi => by have := h.high (p + 1) (by simpa using hp) (by omega); simpa using this, by have := h.hit; simpa using this⟩
    rw [insW, if_neg (by omega), if_neg (by omega), insW_no ht]
    simp
theorem wids_snoc (l : List Wid) (x : Wid) : cels (wids l) ++ cels [⟨x.c, x.i⟩] = cels (wids (l ++ [x])) := by
  rw [← cels_append]
  unfold wids
  rw [List.map_append]
  rfl
theorem OwnW.one {w : World} {base : Nat} {v : Value} {os : List Wls} {us : List Value} (h : OwnW w base v os us) : ∀ u ∈ us, u.oneCell' = true := fun u hu => by
  obtain ⟨i, hi⟩ := List.getElem?_of_mem hu
  obtain ⟨_, h2⟩ := h.at_ hi
  obtain ⟨A, c, rfl⟩ := own_shape h2
  rfl

set_option maxRecDepth 100000 in
set_option maxHeartbeats 1600000 in
theorem addWrite_any (base : Nat) (v : Value) (os : List Wls) (us : List Value) (a : Int) (x : Wid) (w : World) (ho : OwnW w base v os us) (hr : risO os) (hl : os.length ≤ 1000) (hm : ∀ y ∈ os, y.ids.length ≤ 1000) (hbase : base ≤ w.heap.size) :
    Calls Try.prog 94 #[v, .int .i64 a, .agg #[.int .i64 x.c, .int .i64 x.i]] w fun e w' => ∃ v' us', e = .returned v' ∧ OwnW w' base v' (insW a x os) us' ∧ Spare (v :: us) w w' := by
  obtain ⟨A, n, c, hv⟩ : ∃ A n c, v = .slice A n c := by obtain ⟨A, c, e⟩ := own_shape ho.row; exact ⟨A, _, c, e⟩
  subst hv
  obtain rfl := ho.n_eq
  obtain ⟨i0, hi0, hz0, hz1, hz2⟩ := info_parts info_wid
  obtain ⟨W, hW⟩ : ∃ W, W = w.alloc (Obj.cells #[.int .i64 x.c, .int .i64 x.i] 96) := ⟨_, rfl⟩
  have kp : Bk W w.heap.size #[.int .i64 x.c, .int .i64 x.i] 96 := by rw [hW]; exact Bk.new w _ _
  have hoW : OwnW W base (.slice A os.length c) os us := by rw [hW]; exact ho.alloc _
  have hWz : W.heap.size = w.heap.size + 1 := by rw [hW]; simp
  have SW : Spare (.slice A os.length c :: us) w W := by rw [hW]; exact Spare.of_below ((Below.refl _ _).alloc (Nat.le_refl _) _)
  have HOLD := hide (show (∀ b, (Value.slice A os.length c).ownBlock = some b → b < w.heap.size) ∧ ∀ u ∈ us, ∀ b, u.ownBlock = some b → b < w.heap.size from ⟨fun b e => (ho.row.lt b e).2, fun u hu b e => (ho.bound u hu b e).2⟩)
  have HW := hide hW
  clear hW ho
  go_enter Try.func94, Try.ntmps94
  go_wp2_with fail
  rw [← HW.out]
  refine (placeW_any os A c a W (by omega) hr hoW.rd).mono ?_
  rintro e w1 ⟨i, f, rfl, hF, b1⟩
  have ho1 := hoW.below b1
  have kp1 := kp.kept b1
  have S1 := SW.then_ b1
  have hzw1 := b1.size
  clear hoW kp SW b1
  cases f
  · have HI := hide (insW_no (x := x) hF)
    have hil := hF.le
    obtain ⟨w2, hw2⟩ : ∃ w2, w2 = w1.alloc (Obj.cells #[.int .i64 a, .slice none 0 0] 82) := ⟨_, rfl⟩
    have kq : Bk w2 w1.heap.size #[.int .i64 a, .slice none 0 0] 82 := by rw [hw2]; exact Bk.new w1 _ _
    have ho2 : OwnW w2 base (.slice A os.length c) os us := by rw [hw2]; exact ho1.alloc _
    have kp2 : Bk w2 w.heap.size #[.int .i64 x.c, .int .i64 x.i] 96 := by rw [hw2]; exact kp1.alloc _
    have S2 : Spare (.slice A os.length c :: us) w w2 := by rw [hw2]; exact S1.then_ ((Below.refl _ _).alloc (Nat.le_refl _) _)
    have hz2' : w2.heap.size = w1.heap.size + 1 := by rw [hw2]; simp
    have HW2 := hide hw2
    have INS := hide (insertV_any base w1.heap.size i os.length (.slice A os.length c) (wlR os us) (.int .i64 a) (.slice none 0 0) w2 hil ho2.row (by omega) (wlR_one ho2.one) (by intro u hu; simp at hu; rcases hu with rfl | rfl <;> rfl) kq (fun e => by have := (ho1.row.lt _ e).2; omega) (by omega))
    clear hw2 ho1 kp1 S1 kq hF
    go_wp2_with fail
    rw [← HW2.out]
    refine INS.out.mono ?_
    rintro e w3 ⟨v', rfl, o3, g3, m3⟩
    have ho3 := ho2.insert (a := a) hil o3 g3
    have kp3 := kp2.grown g3 (fun e => own_box ho2.row kp2 (by decide) e.symm)
    have S3 := S2.more g3 (fun g e => .inl ⟨_, List.mem_cons_self, e⟩)
    have hz3 := g3.size
    have hi3 : i < (os.take i ++ (⟨a, []⟩ : Wls) :: os.drop i).length := by simp only [List.length_append, List.length_cons, List.length_take, List.length_drop]; omega
    have hget : (os.take i ++ (⟨a, []⟩ : Wls) :: os.drop i)[i]'hi3 = ⟨a, []⟩ := by
      have h1 := getElem?_ins os i hil (⟨a, []⟩ : Wls) i
      rw [List.getElem?_eq_getElem hi3, if_neg (Nat.lt_irrefl _), if_pos rfl] at h1
      exact Option.some.inj h1
    have HF := hide (show (os.take i ++ (⟨a, []⟩ : Wls) :: os.drop i).set i ⟨a, [] ++ [x]⟩ = insW a x os by
      have hl : (os.take i).length = i := by rw [List.length_take]; omega
      rw [HI.out, List.set_append_right _ _ (by omega), hl, Nat.sub_self]
      rfl)
    have hfresh : ∀ b, v'.ownBlock = some b → (∃ u ∈ (Value.slice A os.length c :: us), u.ownBlock = some b) ∨ w.heap.size ≤ b := fun b hb => by
      rcases m3 with e | ⟨b', e, hb'⟩
      · exact .inl ⟨_, List.mem_cons_self, e.symm.trans hb⟩
      · rw [hb] at e; cases e; exact .inr (by omega)
    have husf : ∀ u ∈ (us.take i ++ Value.slice none 0 0 :: us.drop i), ∀ b, u.ownBlock = some b → ∃ u ∈ (Value.slice A os.length c :: us), u.ownBlock = some b := fun u hu b hb => by
      rcases List.mem_append.1 hu with hu | hu
      · exact ⟨u, List.mem_cons_of_mem _ (List.mem_of_mem_take hu), hb⟩
      · rcases List.mem_cons.1 hu with rfl | hu
        · cases hb
        · exact ⟨u, List.mem_cons_of_mem _ (List.mem_of_mem_drop hu), hb⟩
    obtain ⟨os3, hos3⟩ : ∃ l, l = os.take i ++ (⟨a, []⟩ : Wls) :: os.drop i := ⟨_, rfl⟩
    obtain ⟨us3, hus3⟩ : ∃ l, l = us.take i ++ Value.slice none 0 0 :: us.drop i := ⟨_, rfl⟩
    rw [← hos3] at ho3 HF
    rw [← hus3] at ho3 husf
    have hi3' : i < os3.length := by rw [hos3]; exact hi3
    have hget' : os3[i] = ⟨a, []⟩ := by subst hos3; exact hget
    have hl3 : os3.length ≤ 1001 := by rw [hos3]; simp only [List.length_append, List.length_cons, List.length_take, List.length_drop]; omega
    have hLa : os3[i].a = a := by rw [hget']
    have hLi : os3[i].ids = [] := by rw [hget']
    have HF2 := hide (show os3.set i ⟨os3[i].a, os3[i].ids ++ [x]⟩ = insW a x os by rw [hLa, hLi]; exact HF.out)
    have hm3 : os3[i].ids.length ≤ 1000 := by rw [hLi]; simp
    clear hos3 hus3 hget hi3 o3 g3 m3 ho2 kp2 S2 HF hget' hLa hLi INS HI
    obtain ⟨A3, c3, hv3⟩ := own_shape ho3.row
    subst hv3
    obtain ⟨gv, rfl⟩ : ∃ g, A3 = some ⟨g, 0, none⟩ := by
      rcases ho3.row.2 with ⟨h', h''⟩ | ⟨g, cap, cur, h', _⟩
      · omega
      · simp only [Value.slice.injEq] at h'
        exact ⟨g, h'.1⟩
    have hiz : ¬ os3.length ≤ i := by omega
    obtain ⟨u, hui, hru⟩ := ho3.rows i hi3'
    obtain ⟨L, hL⟩ : ∃ L, L = os3[i].ids := ⟨_, rfl⟩
    obtain ⟨ai, hai⟩ : ∃ q, q = os3[i].a := ⟨_, rfl⟩
    rw [← hL] at hru hm3
    rw [← hL, ← hai] at HF2
    obtain ⟨ak, ck, hu⟩ := own_shape hru
    subst hu
    have HLA := hide (And.intro hL hai)
    clear hL hai
    have hrd : OwnW w3.drew base (.slice (some ⟨gv, 0, none⟩) os3.length c3) os3 us3 := ho3.below (Below.refl _ _).drew
    have kpd : Bk w3.drew w.heap.size #[.int .i64 x.c, .int .i64 x.i] 96 := kp3
    have Sd := S3.then_ (Below.refl w3.heap.size w3).drew
    have hzd : w3.drew.heap.size = w3.heap.size := rfl
    go_wp2_with fail
    obtain ⟨wy, hwy⟩ : ∃ wy, wy = w3.drew := ⟨_, rfl⟩
    rw [← hwy] at hrd kpd Sd hzd
    have AC : ∀ w', Bk w' w.heap.size #[.int .i64 x.c, .int .i64 x.i] 96 → w'.cell? ⟨w.heap.size, 0, none⟩ = some (Value.int .i64 x.c) ∧ w'.cell? ⟨w.heap.size, 1, none⟩ = some (Value.int .i64 x.i) := fun w' h => ⟨(h.cell 0).trans rfl, (h.cell 1).trans rfl⟩
    have hcell : ∀ w', OwnW w' base (.slice (some ⟨gv, 0, none⟩) os3.length c3) os3 us3 → w'.cell? ⟨gv, i * 2 + 1, none⟩ = some (Value.slice ak L.length ck) := fun w' h => by
      have hwl := wlR_length h.len
      rw [h.row.cellAt (i * 2 + 1) (by omega), (wlR_get h.len i hi3').2]
      exact hui
    have a0 := AC _ kpd
    have s0 := hcell _ hrd
    have hs1 := hrd.alloc (.cells #[.int .i64 x.c, .int .i64 x.i] 96)
    have kpa := kpd.alloc (.cells #[.int .i64 x.c, .int .i64 x.i] 96)
    have Sa := Sd.then_ ((Below.refl wy.heap.size wy).alloc (Nat.le_refl _) (.cells #[.int .i64 x.c, .int .i64 x.i] 96))
    have a1 := AC _ kpa
    have s1 := hcell _ hs1
    have hBl := RdC.one_new wy ⟨x.c, x.i⟩ 96
    obtain ⟨_, hoM⟩ := hs1.at_ hui
    have hoL : (wy.alloc (.cells #[.int .i64 x.c, .int .i64 x.i] 96)).ownsRow base 96 2 (.slice ak L.length ck) L.length (cels (wids L)) := by rw [← HLA.out.1] at hoM; exact hoM
    have hzy : base ≤ (wy.alloc (.cells #[.int .i64 x.c, .int .i64 x.i] 96)).heap.size := by simp; omega
    have hnp : some w.heap.size ≠ (Value.slice ak L.length ck).ownBlock := fun e => by
      obtain ⟨u2, h1, h2⟩ := husf _ (List.mem_of_getElem? hui) _ e.symm
      rcases List.mem_cons.1 h1 with rfl | h1
      · have := HOLD.out.1 _ h2; omega
      · have := HOLD.out.2 _ h1 _ h2; omega
    have hgvp : w.heap.size ≠ gv := fun e => own_box hrd.row kpd (by decide) (by rw [e]; rfl)
    subst hwy
    clear kp3 ho3 S3 hrd kpd Sd hoM
    refine wp_region_F 9 (fun w' => w'.cell? ⟨w.heap.size, 0, none⟩ = some (Value.int .i64 x.c) ∧ w'.cell? ⟨w.heap.size, 1, none⟩ = some (Value.int .i64 x.i)) (fun w' => w'.cell? ⟨gv, i * 2 + 1, none⟩ = some (Value.slice ak L.length ck)) (by kernel_rfl) ⟨a0, s0⟩ (fun hHeld => ?_)
    try simp only [Act.put, List.setIfInBounds_toArray, List.set_cons_zero, List.set_cons_succ]
    refine wpAnyF_take (i := 0) (v := ?_) (by (simp only [List.getElem?_toArray, List.getElem?_cons_zero]; rfl)) (by kernel_rfl) (by kernel_rfl) (by kernel_rfl) (by decide) (by exact fun _ _ _ h => h) ⟨hHeld.1, .inr hHeld.2⟩ (Or.inl ⟨by rfl, ?_⟩) ?_
    rotate_left
    · (intro w' _; go_simp <;> with_reducible rfl)
    try simp only [Act.put, List.setIfInBounds_toArray, List.set_cons_zero, List.set_cons_succ]
    refine wpAnyF_take (i := 1) (v := ?_) (by (simp only [List.getElem?_toArray, List.getElem?_cons_succ, List.getElem?_cons_zero]; rfl)) (by kernel_rfl) (by kernel_rfl) (by kernel_rfl) (by decide) (by exact fun _ _ _ h => h) ⟨hHeld.1, .inr hHeld.2⟩ (Or.inl ⟨by rfl, ?_⟩) ?_
    rotate_left
    · (intro w' _; go_simp <;> with_reducible rfl)
    try simp only [Act.put, List.setIfInBounds_toArray, List.set_cons_zero, List.set_cons_succ]
    refine wpAnyF_take (i := 2) (v := ?_) (by (simp only [List.getElem?_toArray, List.getElem?_cons_succ, List.getElem?_cons_zero]; rfl)) (by kernel_rfl) (by kernel_rfl) (by kernel_rfl) (by decide) (by exact fun _ _ _ h => h) ⟨hHeld.1, .inr hHeld.2⟩ (Or.inl ⟨by rfl, ?_⟩) ?_
    rotate_left
    · (intro w' _; go_simp <;> with_reducible rfl)
    try simp only [Act.put, List.setIfInBounds_toArray, List.set_cons_zero, List.set_cons_succ]
    refine wpAnyF_take (i := 3) (v := ?_) (by (simp only [List.getElem?_toArray, List.getElem?_cons_succ, List.getElem?_cons_zero]; rfl)) (by kernel_rfl) (by kernel_rfl) (by kernel_rfl) (by decide) (by exact fun _ _ _ h => h) ⟨hHeld.1, .inr hHeld.2⟩ (Or.inl ⟨by rfl, ?_⟩) ?_
    rotate_left
    · (intro w' _; go_simp <;> with_reducible rfl)
    try simp only [Act.put, List.setIfInBounds_toArray, List.set_cons_zero, List.set_cons_succ]
    refine wpAnyF_take (i := 4) (v := ?_) (by (simp only [List.getElem?_toArray, List.getElem?_cons_succ, List.getElem?_cons_zero]; rfl)) (by kernel_rfl) (by kernel_rfl) (by kernel_rfl) (by decide) (by exact fun _ _ _ h => h) ⟨hHeld.1, .inr hHeld.2⟩ (Or.inl ⟨by rfl, ?_⟩) ?_
    rotate_left
    · (intro w' _; go_simp <;> with_reducible rfl)
    try simp only [Act.put, List.setIfInBounds_toArray, List.set_cons_zero, List.set_cons_succ]
    refine wpAnyF_take (i := 5) (v := ?_) (by (simp only [List.getElem?_toArray, List.getElem?_cons_succ, List.getElem?_cons_zero]; rfl)) (by kernel_rfl) (by kernel_rfl) (by kernel_rfl) (by decide) (by exact fun _ _ _ h => h) ⟨hHeld.1, .inr hHeld.2⟩ (Or.inl ⟨by rfl, ?_⟩) ?_
    rotate_left
    · (intro w' _; go_simp <;> with_reducible rfl)
    try simp only [Act.put, List.setIfInBounds_toArray, List.set_cons_zero, List.set_cons_succ]
    refine wpAnyF_load (i := 6) (v := ?_) (by (simp only [List.getElem?_toArray, List.getElem?_cons_succ, List.getElem?_cons_zero]; rfl)) (by kernel_rfl) (by kernel_rfl) (by kernel_rfl) (by decide) (by exact fun _ _ _ h => h) hHeld (by kernel_rfl) (by kernel_rfl) (Or.inl ⟨by rfl, ?_⟩) ?_
    rotate_left
    · (intro w' hSw; (try dsimp only at hSw); obtain hSb0 := hSw; go_simp <;> with_reducible rfl)
    try simp only [Act.put, List.setIfInBounds_toArray, List.set_cons_zero, List.set_cons_succ]
    refine wpAnyF_keep (i := 7) (v := ?_) (by (simp only [List.getElem?_toArray, List.getElem?_cons_succ, List.getElem?_cons_zero]; rfl)) (by kernel_rfl) (by kernel_rfl) (by kernel_rfl) (by decide) (by exact fun _ _ _ h => h) ⟨hHeld.1, .inr hHeld.2⟩ (Or.inl ⟨by rfl, ?_⟩) ?_
    rotate_left
    · (intro w' hSw; (try dsimp only at hSw); obtain ⟨hSa0, hSa1⟩ := hSw; go_simp <;> with_reducible rfl)
    try simp only [Act.put, List.setIfInBounds_toArray, List.set_cons_zero, List.set_cons_succ]
    refine wpAnyF_ready (rs := [8]) (by kernel_rfl) (by simp) ?_
    refine AllReadyF.cons (by (simp only [List.getElem?_toArray, List.getElem?_cons_succ, List.getElem?_cons_zero]; rfl)) (fun K hK => ?_) AllReadyF.nil
    go_simp
    refine hK.out _ _ ⟨a1, s1⟩ (fun hNew => ?_)
    clear hK K hHeld
    have hHeld := hNew
    clear hNew
    try simp only [Act.put, List.setIfInBounds_toArray, List.set_cons_zero, List.set_cons_succ]
    refine wpAnyF_ready (rs := [9]) (by kernel_rfl) (by simp) ?_
    refine AllReadyF.last (by (simp only [List.getElem?_toArray, List.getElem?_cons_succ, List.getElem?_cons_zero]; rfl)) (by kernel_rfl) (fun K hK => ?_) AllReadyF.nil
    refine step_append_rc _ (by rfl) (.tmp 29) (.tmp 31) 80 (by rfl) base 96 i0 (.agg #[.int .i64 0, .int .i64 0]) 16 Try.underlying80 hi0 hz0 hz1 hz2 rfl (.slice ak L.length ck) L.length (cels (wids L)) (by rfl) hoL (some ⟨w3.drew.heap.size, 0, none⟩) [⟨x.c, x.i⟩] 1 (w3.drew.heap.size + 1) (by rfl) hBl (by unfold maxLen; simp only [List.length_cons, List.length_nil]; omega) (by simp only [List.length_cons, List.length_nil]; omega) hzy ?_
    intro v5 w5 o5 g5 hat5
    simp only [List.length_cons, List.length_nil, Nat.zero_add] at o5
    rw [wids_snoc] at o5
    obtain ⟨D5, d5, hv5⟩ := own_shape o5
    subst hv5
    have r5 := hs1.row.kept g5 (own_sep fun b hb e => own_types hoL hs1.row (by decide) b e hb)
    have hwl5 := wlR_length hs1.len
    have hc5 : w5.cell? ⟨gv, i * 2 + 1, none⟩ = some (Value.slice ak L.length ck) := by rw [r5.cellAt (i * 2 + 1) (by omega), (wlR_get hs1.len i hi3').2]; exact hui
    have hf5 := r5.frozenAt (i * 2 + 1)
    have H5 := hide (hs1.swap (l := L ++ [x]) hui hi3' g5 (fun b e => .inl e) (by rw [List.length_append, List.length_singleton]; exact o5) (fun b hb => by
        rcases hat5 with e | e
        · exact .inl (e.symm.trans hb)
        · rw [e] at hb; simp only [Option.some.injEq] at hb; exact .inr fun j y _ hy => hs1.fresh (Nat.le_of_eq hb) hy))
    have S5 := (Sa.more g5 (fun g e => .inl (husf _ (List.mem_of_getElem? hui) _ e))).more (grown_set w5 gv (i * 2 + 1) (.slice D5 (L.length + 1) d5)) (fun g e => hfresh g e)
    have kp5 := kpa.grown g5 hnp
    have A5 := AC _ kp5
    have A6 := AC _ (kp5.far (p := ⟨gv, i * 2 + 1, none⟩) hgvp (.slice D5 (L.length + 1) d5))
    clear kpa kp5 o5 g5 hat5 hoL hBl hs1 r5 hwl5 Sa
    refine hK.out _ _ A5 ?_
    clear hK K
    try simp only [Act.put, List.setIfInBounds_toArray, List.set_cons_zero, List.set_cons_succ]
    refine wpAnyF_take (i := 10) (v := ?_) (by (simp only [List.getElem?_toArray, List.getElem?_cons_succ, List.getElem?_cons_zero]; rfl)) (by kernel_rfl) (by kernel_rfl) (by kernel_rfl) (by decide) (by exact fun _ _ _ h => h) ⟨A5, .inl (by kernel_rfl)⟩ (Or.inl ⟨by rfl, ?_⟩) ?_
    rotate_left
    · (intro w' _; go_simp <;> with_reducible rfl)
    try simp only [Act.put, List.setIfInBounds_toArray, List.set_cons_zero, List.set_cons_succ]
    refine wpAnyF_take (i := 11) (v := ?_) (by (simp only [List.getElem?_toArray, List.getElem?_cons_succ, List.getElem?_cons_zero]; rfl)) (by kernel_rfl) (by kernel_rfl) (by kernel_rfl) (by decide) (by exact fun _ _ _ h => h) ⟨A5, .inl (by kernel_rfl)⟩ (Or.inl ⟨by rfl, ?_⟩) ?_
    rotate_left
    · (intro w' _; go_simp <;> with_reducible rfl)
    try simp only [Act.put, List.setIfInBounds_toArray, List.set_cons_zero, List.set_cons_succ]
    refine wpAnyF_ready (rs := [12]) (by kernel_rfl) (by simp) ?_
    refine AllReadyF.last (by (simp only [List.getElem?_toArray, List.getElem?_cons_succ, List.getElem?_cons_zero]; rfl)) (by kernel_rfl) (fun K hK => ?_) AllReadyF.nil
    go_simp
    refine hK.out _ _ A6 ?_
    clear hK K
    try simp only [Act.put, List.setIfInBounds_toArray, List.set_cons_zero, List.set_cons_succ]
    refine wpAnyF_done (by kernel_rfl) ?_ _
    go_wp2
    go_ret
    have H6 := H5.out
    rw [← HLA.out.2, HF2.out] at H6
    exact ⟨_, _, rfl, H6, S5⟩
  · have HI := hide (insW_yes (x := x) hF)
    obtain ⟨hil, hia⟩ := hF.yes
    have HF2 := hide (show os.set i ⟨os[i].a, os[i].ids ++ [x]⟩ = insW a x os from (HI.out hil).symm)
    have hm3 : os[i].ids.length ≤ 1000 := hm _ (List.getElem_mem hil)
    have hfresh : ∀ b, (Value.slice A os.length c).ownBlock = some b → (∃ u ∈ (Value.slice A os.length c :: us), u.ownBlock = some b) ∨ w.heap.size ≤ b := fun b hb => .inl ⟨_, List.mem_cons_self, hb⟩
    have husf : ∀ u ∈ us, ∀ b, u.ownBlock = some b → ∃ u ∈ (Value.slice A os.length c :: us), u.ownBlock = some b := fun u hu b hb => ⟨u, List.mem_cons_of_mem _ hu, hb⟩
    clear hF HI hia hm
    obtain ⟨gv, rfl⟩ : ∃ g, A = some ⟨g, 0, none⟩ := by
      rcases ho1.row.2 with ⟨h', h''⟩ | ⟨g, cap, cur, h', _⟩
      · omega
      · simp only [Value.slice.injEq] at h'
        exact ⟨g, h'.1⟩
    have hiz : ¬ os.length ≤ i := by omega
    obtain ⟨u, hui, hru⟩ := ho1.rows i hil
    obtain ⟨L, hL⟩ : ∃ L, L = os[i].ids := ⟨_, rfl⟩
    obtain ⟨ai, hai⟩ : ∃ q, q = os[i].a := ⟨_, rfl⟩
    rw [← hL] at hru hm3
    rw [← hL, ← hai] at HF2
    obtain ⟨ak, ck, hu⟩ := own_shape hru
    subst hu
    have HLA := hide (And.intro hL hai)
    clear hL hai
    have hrd : OwnW w1.drew base (.slice (some ⟨gv, 0, none⟩) os.length c) os us := ho1.below (Below.refl _ _).drew
    have kpd : Bk w1.drew w.heap.size #[.int .i64 x.c, .int .i64 x.i] 96 := kp1
    have Sd := S1.then_ (Below.refl w1.heap.size w1).drew
    have hzd : w1.drew.heap.size = w1.heap.size := rfl
    go_wp2_with fail
    obtain ⟨wy, hwy⟩ : ∃ wy, wy = w1.drew := ⟨_, rfl⟩
    rw [← hwy] at hrd kpd Sd hzd
    have AC : ∀ w', Bk w' w.heap.size #[.int .i64 x.c, .int .i64 x.i] 96 → w'.cell? ⟨w.heap.size, 0, none⟩ = some (Value.int .i64 x.c) ∧ w'.cell? ⟨w.heap.size, 1, none⟩ = some (Value.int .i64 x.i) := fun w' h => ⟨(h.cell 0).trans rfl, (h.cell 1).trans rfl⟩
    have hcell : ∀ w', OwnW w' base (.slice (some ⟨gv, 0, none⟩) os.length c) os us → w'.cell? ⟨gv, i * 2 + 1, none⟩ = some (Value.slice ak L.length ck) := fun w' h => by
      have hwl := wlR_length h.len
      rw [h.row.cellAt (i * 2 + 1) (by omega), (wlR_get h.len i hil).2]
      exact hui
    have a0 := AC _ kpd
    have s0 := hcell _ hrd
    have hs1 := hrd.alloc (.cells #[.int .i64 x.c, .int .i64 x.i] 96)
    have kpa := kpd.alloc (.cells #[.int .i64 x.c, .int .i64 x.i] 96)
    have Sa := Sd.then_ ((Below.refl wy.heap.size wy).alloc (Nat.le_refl _) (.cells #[.int .i64 x.c, .int .i64 x.i] 96))
    have a1 := AC _ kpa
    have s1 := hcell _ hs1
    have hBl := RdC.one_new wy ⟨x.c, x.i⟩ 96
    obtain ⟨_, hoM⟩ := hs1.at_ hui
    have hoL : (wy.alloc (.cells #[.int .i64 x.c, .int .i64 x.i] 96)).ownsRow base 96 2 (.slice ak L.length ck) L.length (cels (wids L)) := by rw [← HLA.out.1] at hoM; exact hoM
    have hzy : base ≤ (wy.alloc (.cells #[.int .i64 x.c, .int .i64 x.i] 96)).heap.size := by simp; omega
    have hnp : some w.heap.size ≠ (Value.slice ak L.length ck).ownBlock := fun e => by
      obtain ⟨u2, h1, h2⟩ := husf _ (List.mem_of_getElem? hui) _ e.symm
      rcases List.mem_cons.1 h1 with rfl | h1
      · have := HOLD.out.1 _ h2; omega
      · have := HOLD.out.2 _ h1 _ h2; omega
    have hgvp : w.heap.size ≠ gv := fun e => own_box hrd.row kpd (by decide) (by rw [e]; rfl)
    subst hwy
    clear kp1 ho1 S1 hrd kpd Sd hoM
    refine wp_region_F 9 (fun w' => w'.cell? ⟨w.heap.size, 0, none⟩ = some (Value.int .i64 x.c) ∧ w'.cell? ⟨w.heap.size, 1, none⟩ = some (Value.int .i64 x.i)) (fun w' => w'.cell? ⟨gv, i * 2 + 1, none⟩ = some (Value.slice ak L.length ck)) (by kernel_rfl) ⟨a0, s0⟩ (fun hHeld => ?_)
    try simp only [Act.put, List.setIfInBounds_toArray, List.set_cons_zero, List.set_cons_succ]
    refine wpAnyF_take (i := 0) (v := ?_) (by (simp only [List.getElem?_toArray, List.getElem?_cons_zero]; rfl)) (by kernel_rfl) (by kernel_rfl) (by kernel_rfl) (by decide) (by exact fun _ _ _ h => h) ⟨hHeld.1, .inr hHeld.2⟩ (Or.inl ⟨by rfl, ?_⟩) ?_
    rotate_left
    · (intro w' _; go_simp <;> with_reducible rfl)
    try simp only [Act.put, List.setIfInBounds_toArray, List.set_cons_zero, List.set_cons_succ]
    refine wpAnyF_take (i := 1) (v := ?_) (by (simp only [List.getElem?_toArray, List.getElem?_cons_succ, List.getElem?_cons_zero]; rfl)) (by kernel_rfl) (by kernel_rfl) (by kernel_rfl) (by decide) (by exact fun _ _ _ h => h) ⟨hHeld.1, .inr hHeld.2⟩ (Or.inl ⟨by rfl, ?_⟩) ?_
    rotate_left
    · (intro w' _; go_simp <;> with_reducible rfl)
    try simp only [Act.put, List.setIfInBounds_toArray, List.set_cons_zero, List.set_cons_succ]
    refine wpAnyF_take (i := 2) (v := ?_) (by (simp only [List.getElem?_toArray, List.getElem?_cons_succ, List.getElem?_cons_zero]; rfl)) (by kernel_rfl) (by kernel_rfl) (by kernel_rfl) (by decide) (by exact fun _ _ _ h => h) ⟨hHeld.1, .inr hHeld.2⟩ (Or.inl ⟨by rfl, ?_⟩) ?_
    rotate_left
    · (intro w' _; go_simp <;> with_reducible rfl)
    try simp only [Act.put, List.setIfInBounds_toArray, List.set_cons_zero, List.set_cons_succ]
    refine wpAnyF_take (i := 3) (v := ?_) (by (simp only [List.getElem?_toArray, List.getElem?_cons_succ, List.getElem?_cons_zero]; rfl)) (by kernel_rfl) (by kernel_rfl) (by kernel_rfl) (by decide) (by exact fun _ _ _ h => h) ⟨hHeld.1, .inr hHeld.2⟩ (Or.inl ⟨by rfl, ?_⟩) ?_
    rotate_left
    · (intro w' _; go_simp <;> with_reducible rfl)
    try simp only [Act.put, List.setIfInBounds_toArray, List.set_cons_zero, List.set_cons_succ]
    refine wpAnyF_take (i := 4) (v := ?_) (by (simp only [List.getElem?_toArray, List.getElem?_cons_succ, List.getElem?_cons_zero]; rfl)) (by kernel_rfl) (by kernel_rfl) (by kernel_rfl) (by decide) (by exact fun _ _ _ h => h) ⟨hHeld.1, .inr hHeld.2⟩ (Or.inl ⟨by rfl, ?_⟩) ?_
    rotate_left
    · (intro w' _; go_simp <;> with_reducible rfl)
    try simp only [Act.put, List.setIfInBounds_toArray, List.set_cons_zero, List.set_cons_succ]
    refine wpAnyF_take (i := 5) (v := ?_) (by (simp only [List.getElem?_toArray, List.getElem?_cons_succ, List.getElem?_cons_zero]; rfl)) (by kernel_rfl) (by kernel_rfl) (by kernel_rfl) (by decide) (by exact fun _ _ _ h => h) ⟨hHeld.1, .inr hHeld.2⟩ (Or.inl ⟨by rfl, ?_⟩) ?_
    rotate_left
    · (intro w' _; go_simp <;> with_reducible rfl)
    try simp only [Act.put, List.setIfInBounds_toArray, List.set_cons_zero, List.set_cons_succ]
    refine wpAnyF_load (i := 6) (v := ?_) (by (simp only [List.getElem?_toArray, List.getElem?_cons_succ, List.getElem?_cons_zero]; rfl)) (by kernel_rfl) (by kernel_rfl) (by kernel_rfl) (by decide) (by exact fun _ _ _ h => h) hHeld (by kernel_rfl) (by kernel_rfl) (Or.inl ⟨by rfl, ?_⟩) ?_
    rotate_left
    · (intro w' hSw; (try dsimp only at hSw); obtain hSb0 := hSw; go_simp <;> with_reducible rfl)
    try simp only [Act.put, List.setIfInBounds_toArray, List.set_cons_zero, List.set_cons_succ]
    refine wpAnyF_keep (i := 7) (v := ?_) (by (simp only [List.getElem?_toArray, List.getElem?_cons_succ, List.getElem?_cons_zero]; rfl)) (by kernel_rfl) (by kernel_rfl) (by kernel_rfl) (by decide) (by exact fun _ _ _ h => h) ⟨hHeld.1, .inr hHeld.2⟩ (Or.inl ⟨by rfl, ?_⟩) ?_
    rotate_left
    · (intro w' hSw; (try dsimp only at hSw); obtain ⟨hSa0, hSa1⟩ := hSw; go_simp <;> with_reducible rfl)
    try simp only [Act.put, List.setIfInBounds_toArray, List.set_cons_zero, List.set_cons_succ]
    refine wpAnyF_ready (rs := [8]) (by kernel_rfl) (by simp) ?_
    refine AllReadyF.cons (by (simp only [List.getElem?_toArray, List.getElem?_cons_succ, List.getElem?_cons_zero]; rfl)) (fun K hK => ?_) AllReadyF.nil
    go_simp
    refine hK.out _ _ ⟨a1, s1⟩ (fun hNew => ?_)
    clear hK K hHeld
    have hHeld := hNew
    clear hNew
    try simp only [Act.put, List.setIfInBounds_toArray, List.set_cons_zero, List.set_cons_succ]
    refine wpAnyF_ready (rs := [9]) (by kernel_rfl) (by simp) ?_
    refine AllReadyF.last (by (simp only [List.getElem?_toArray, List.getElem?_cons_succ, List.getElem?_cons_zero]; rfl)) (by kernel_rfl) (fun K hK => ?_) AllReadyF.nil
    refine step_append_rc _ (by rfl) (.tmp 29) (.tmp 31) 80 (by rfl) base 96 i0 (.agg #[.int .i64 0, .int .i64 0]) 16 Try.underlying80 hi0 hz0 hz1 hz2 rfl (.slice ak L.length ck) L.length (cels (wids L)) (by rfl) hoL (some ⟨w1.drew.heap.size, 0, none⟩) [⟨x.c, x.i⟩] 1 (w1.drew.heap.size + 1) (by rfl) hBl (by unfold maxLen; simp only [List.length_cons, List.length_nil]; omega) (by simp only [List.length_cons, List.length_nil]; omega) hzy ?_
    intro v5 w5 o5 g5 hat5
    simp only [List.length_cons, List.length_nil, Nat.zero_add] at o5
    rw [wids_snoc] at o5
    obtain ⟨D5, d5, hv5⟩ := own_shape o5
    subst hv5
    have r5 := hs1.row.kept g5 (own_sep fun b hb e => own_types hoL hs1.row (by decide) b e hb)
    have hwl5 := wlR_length hs1.len
    have hc5 : w5.cell? ⟨gv, i * 2 + 1, none⟩ = some (Value.slice ak L.length ck) := by rw [r5.cellAt (i * 2 + 1) (by omega), (wlR_get hs1.len i hil).2]; exact hui
    have hf5 := r5.frozenAt (i * 2 + 1)
    have H5 := hide (hs1.swap (l := L ++ [x]) hui hil g5 (fun b e => .inl e) (by rw [List.length_append, List.length_singleton]; exact o5) (fun b hb => by
        rcases hat5 with e | e
        · exact .inl (e.symm.trans hb)
        · rw [e] at hb; simp only [Option.some.injEq] at hb; exact .inr fun j y _ hy => hs1.fresh (Nat.le_of_eq hb) hy))
    have S5 := (Sa.more g5 (fun g e => .inl (husf _ (List.mem_of_getElem? hui) _ e))).more (grown_set w5 gv (i * 2 + 1) (.slice D5 (L.length + 1) d5)) (fun g e => hfresh g e)
    have kp5 := kpa.grown g5 hnp
    have A5 := AC _ kp5
    have A6 := AC _ (kp5.far (p := ⟨gv, i * 2 + 1, none⟩) hgvp (.slice D5 (L.length + 1) d5))
    clear kpa kp5 o5 g5 hat5 hoL hBl hs1 r5 hwl5 Sa
    refine hK.out _ _ A5 ?_
    clear hK K
    try simp only [Act.put, List.setIfInBounds_toArray, List.set_cons_zero, List.set_cons_succ]
    refine wpAnyF_take (i := 10) (v := ?_) (by (simp only [List.getElem?_toArray, List.getElem?_cons_succ, List.getElem?_cons_zero]; rfl)) (by kernel_rfl) (by kernel_rfl) (by kernel_rfl) (by decide) (by exact fun _ _ _ h => h) ⟨A5, .inl (by kernel_rfl)⟩ (Or.inl ⟨by rfl, ?_⟩) ?_
    rotate_left
    · (intro w' _; go_simp <;> with_reducible rfl)
    try simp only [Act.put, List.setIfInBounds_toArray, List.set_cons_zero, List.set_cons_succ]
    refine wpAnyF_take (i := 11) (v := ?_) (by (simp only [List.getElem?_toArray, List.getElem?_cons_succ, List.getElem?_cons_zero]; rfl)) (by kernel_rfl) (by kernel_rfl) (by kernel_rfl) (by decide) (by exact fun _ _ _ h => h) ⟨A5, .inl (by kernel_rfl)⟩ (Or.inl ⟨by rfl, ?_⟩) ?_
    rotate_left
    · (intro w' _; go_simp <;> with_reducible rfl)
    try simp only [Act.put, List.setIfInBounds_toArray, List.set_cons_zero, List.set_cons_succ]
    refine wpAnyF_ready (rs := [12]) (by kernel_rfl) (by simp) ?_
    refine AllReadyF.last (by (simp only [List.getElem?_toArray, List.getElem?_cons_succ, List.getElem?_cons_zero]; rfl)) (by kernel_rfl) (fun K hK => ?_) AllReadyF.nil
    go_simp
    refine hK.out _ _ A6 ?_
    clear hK K
    try simp only [Act.put, List.setIfInBounds_toArray, List.set_cons_zero, List.set_cons_succ]
    refine wpAnyF_done (by kernel_rfl) ?_ _
    go_wp2
    go_ret
    have H6 := H5.out
    rw [← HLA.out.2, HF2.out] at H6
    exact ⟨_, _, rfl, H6, S5⟩
end Go.Proofs.Ytdmdljimbmhecaa
