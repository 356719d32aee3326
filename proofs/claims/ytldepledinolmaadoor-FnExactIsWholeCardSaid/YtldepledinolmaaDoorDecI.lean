/- The contract of the program's DecodeTrace. -/
import Derived.Test.YtldepledinolmaaDoorFrsI
namespace Go.Proofs.YtldepledinolmaaDoor
open Go.RowKit

set_option maxRecDepth 100000 in
/-- A panic that bears a code goes through the door: what is answered is the code alone. -/
theorem dec_pan (file : List Int) (C : Int) (hdc : dc file = (C, [])) (w W w3 : World) (jW : Bk W w.heap.size #[Value.int .i64 0, .slice none 0 0] 32) (bW : Below w.heap.size w W) (b3 : Below W.heap.size W w3) (tmps : Array Value)
    (ht : tmps[2]? = some (.pointer (some ⟨w.heap.size, 0, none⟩))) :
    bodyPostD Tryd.prog Tryd.f12 (DtPost (dc file) w) (.panic [{ v := pn C, recovered := false }]) { tmps := tmps, defers := [{ target := .fn (.func 32) #[.pointer (some ⟨w.heap.size, 0, none⟩)], args := #[] }] } w3 := by
  have j3 := jW.kept b3
  refine leaves_cons (f := 32) (args := #[.pointer (some ⟨w.heap.size, 0, none⟩)]) (by simp) (by simp [go_sem]) ?_
  refine (catch_panicking w.heap.size C _ _ [] w3 j3).mono ?_
  rintro e u' w'' ⟨rfl, rfl, rfl⟩
  have j4 := (j3.set_ 0 (.int .i64 C)).set_ 1 (.slice none 0 0)
  have q0 := (j4.cell 0).trans (rfl : _ = some (Value.int .i64 C))
  have q1 := (j4.cell 1).trans (rfl : _ = some (Value.slice none 0 0))
  have zW := bW.size
  have bl := (((bW.trans (b3.mono zW))).setCell (p := ⟨w.heap.size, 0, none⟩) (Nat.le_refl _) (.int .i64 C)).setCell (p := ⟨w.heap.size, 1, none⟩) (Nat.le_refl _) (.slice none 0 0)
  refine ⟨.agg #[.int .i64 C, .slice none 0 0], ?_, ?_⟩
  · simp [results, Tryd.results12, go_sem, ht, q0, q1]
  · rw [hdc]
    exact DtPost.bad bl

set_option maxRecDepth 100000 in
set_option maxHeartbeats 800000 in
theorem implDec_any (file : List Int) (A : Option Addr) (c : Nat) (aN aS aE : Addr) (w : World) (hm : file.length ≤ 1048576) (hc : file.length ≤ c) (hR0 : Rd .u8 w w.heap.size A file) (b8 : B8 file) (hT0 : Tab w) (hS0 : Sent aN aS aE w) :
    Calls Tryd.prog 12 #[.slice A file.length c] w (DtPost (dc file) w) := by
  obtain ⟨W, hW⟩ : ∃ W, W = w.alloc (Obj.cells #[Value.int .i64 0, .slice none 0 0] 32) := ⟨_, rfl⟩
  have HW := hide hW
  have bW : Below w.heap.size w W := by rw [hW]; exact (Below.refl _ _).alloc (Nat.le_refl _) _
  have jW : Bk W w.heap.size #[Value.int .i64 0, .slice none 0 0] 32 := by rw [hW]; exact Bk.new _ _ _
  have zW : W.heap.size = w.heap.size + 1 := by rw [hW]; simp
  have hR := (hR0.below bW).lt
  have hT := hT0.below bW
  have hS := hS0.below bW
  have kV := Bk.new W #[.slice A file.length c, .slice A file.length c, .slice none 0 0, .int .i64 0, .int .i64 0] 65
  have bV := (Below.refl W.heap.size W).alloc (Nat.le_refl _) (Obj.cells #[.slice A file.length c, .slice A file.length c, .slice none 0 0, .int .i64 0, .int .i64 0] 65)
  have HH := hide (head_any W W.heap.size file A c _ hm hc b8 kV (hR.below bV) bV (Nat.le_refl _))
  unfold HeadPost at HH
  obtain ⟨g, hg⟩ : ∃ g, g = W.heap.size := ⟨_, rfl⟩
  rw [← hg] at HH
  have HG := hide hg
  have HZ := hide zW
  clear hW hR0 hT0 hS0 zW kV bV hg
  have hmf : ∀ (fn : Fn) (first cap : Array Value) (w : World), (Instr.makeFunc fn first cap).run Tryd.prog w = .ok (.func fn first cap) w := fun _ _ _ _ => rfl
  go_enter_defers Tryd.func12, Tryd.ntmps12
  go_wp2_with fail
  rw [← HW.out, ← HZ.out, ← HG.out]
  refine HH.out.mono ?_
  clear HH
  rintro e w1 (⟨h2k, hh, rfl, gv, us, A2, c2, hr1⟩ | ⟨C, hC, hdc, rfl, hb1⟩)
  · obtain ⟨R, hRR⟩ : ∃ R, R = dc file := ⟨_, rfl⟩
    have hgo := dc_go h2k hh
    have h2 := hh.1
    have hn4 := hh.2.2.2
    have HR := hide hRR
    have FR := hide (frames_any W g gv file A A2 c c2 (file.getD 1 0).toNat us aN aS aE w1 R h2k b8 (by omega) h2 hr1 hT hS (by rw [hRR, hgo]))
    unfold FrsPost at FR
    clear hgo hh hn4 hRR hr1
    go_wp2_with fail
    refine FR.out.mono ?_
    clear FR
    rintro e w2 (⟨rfl, at_, n, cs, us2, A2', c2', hr2, hat, hna, hcN, hall, hRe⟩ | ⟨C, hC, hRe, rfl, hb2⟩)
    · have EN := hide (end_any W g gv (g + 1) file A A2' c c2' at_ n cs us2 w2 h2k hc b8 hat hr2 (hT.below hr2.old))
      unfold EndPost at EN
      obtain ⟨G, hG⟩ : ∃ G, G = dcEnd file at_ cs n := ⟨_, rfl⟩
      rw [← hG] at EN hRe
      clear hG
      go_wp2_with fail
      refine EN.out.mono ?_
      clear EN
      rintro e w3 ⟨⟨rfl, rfl⟩ | ⟨hG0, rfl⟩, b3⟩
      · have hr3 := hr2.below b3
        have hRz : Hid (dc file = (0, cs)) := hide (by rw [← HR.out, hRe, if_pos rfl])
        have g2 := (hr3.blk.cell 2).trans (rfl : _ = some (Value.slice (some ⟨gv, 0, none⟩) cs.length cs.length))
        have j3 := jW.kept hr3.old
        have q0 := (j3.cell 0).trans (rfl : _ = some (Value.int .i64 0))
        have q1 := (j3.cell 1).trans (rfl : _ = some (Value.slice none 0 0))
        have f0 := j3.frozen 0
        have f1 := j3.frozen 1
        clear hRe
        have HRB := hide hr3
        clear hr3 hr2
        go_wp2
        have hr3 := HRB.out
        have j4 := (j3.set_ 0 (.int .i64 0)).set_ 1 (.slice (some ⟨gv, 0, none⟩) cs.length cs.length)
        have p0 := (j4.cell 0).trans (rfl : _ = some (Value.int .i64 0))
        have p1 := (j4.cell 1).trans (rfl : _ = some (Value.slice (some ⟨gv, 0, none⟩) cs.length cs.length))
        have hzg : w.heap.size < g + 1 := by have := HG.out; have := HZ.out; omega
        have bl := ((bW.trans (hr3.old.mono bW.size)).setCell (p := ⟨w.heap.size, 0, none⟩) (Nat.le_refl _) (.int .i64 0)).setCell (p := ⟨w.heap.size, 1, none⟩) (Nat.le_refl _) (.slice (some ⟨gv, 0, none⟩) cs.length cs.length)
        have oT := ((hr3.own.kept (grown_set w3 w.heap.size 0 (.int .i64 0)) (fun b e => by cases e; exact hzg)).kept (grown_set _ w.heap.size 1 (.slice (some ⟨gv, 0, none⟩) cs.length cs.length)) (fun b e => by cases e; exact hzg)).mono (Nat.le_of_lt hzg)
        refine leaves_cons (f := 32) (args := #[.pointer (some ⟨w.heap.size, 0, none⟩)]) (by simp) (by simp [go_sem]) ?_
        refine (catch_idle w.heap.size _).mono ?_
        rintro e u' w'' ⟨rfl, rfl, rfl⟩
        refine ⟨.agg #[.int .i64 0, .slice (some ⟨gv, 0, none⟩) cs.length cs.length], ?_, ?_⟩
        · simp [results, Tryd.results12, go_sem, p0, p1]
        · rw [hRz.out]
          exact ⟨_, _, us2, rfl, oT, bl⟩
      · have hRz : dc file = (G, []) := by rw [← HR.out, hRe, if_neg hG0]
        exact dec_pan file G hRz w W w3 jW bW (hr2.old.trans (b3.mono hr2.old.size)) _ rfl
    · exact dec_pan file C (by rw [← HR.out, hRe]) w W w2 jW bW hb2 _ rfl
  · rw [HG.out] at hb1
    exact dec_pan file C hdc w W w1 jW bW hb1 _ rfl
end Go.Proofs.YtldepledinolmaaDoor
