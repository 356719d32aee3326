/- In the midst of draws: the source and the arrays that lie. -/
import Derived.Test.YtldepledinolmaaGreatDoorGDrawT
namespace Go.Proofs.YtldepledinolmaaGreatDoor
open Go.RowKit

/-- In the midst of the draws: the source is read as far as k; the arrays of L lie as they were laid. -/
structure Mid (w0 : World) (g : Nat) (A : Option Addr) (c : Nat) (l : List Int) (k : Nat) (L : List (Nat × List Int)) (w : World) : Prop where
  src : Src w g A c l k
  gr : w0.grownBy w (some g)
  arr : ∀ p ∈ L, Bk w p.1 (p.2.map (Value.int .i64)).toArray 2 ∧ p.1 ≠ g
section
variable {w0 w w' : World} {g k : Nat} {A : Option Addr} {c : Nat} {l : List Int} {L : List (Nat × List Int)}
theorem Mid.start (h : Src w g A c l k) : Mid w g A c l k [] w := ⟨h, World.grownBy.refl _ _, fun p hp => by simp at hp⟩
theorem Mid.dr (h : Mid w0 g A c l k L w) : Mid w0 g A c l k L w.drew := ⟨h.src.drewN 1, grown_drewN h.gr 1, fun p hp => ⟨(h.arr p hp).1.drewN 1, (h.arr p hp).2⟩⟩
theorem Mid.al (h : Mid w0 g A c l k L w) (a b d : Int) : Mid w0 g A c l k ((w.heap.size, [a, b, d]) :: L) (w.alloc (.cells #[.int .i64 a, .int .i64 b, .int .i64 d] 2)) :=
  ⟨h.src.alloc _, h.gr.trans (World.grownBy_alloc _ _ _), fun p hp => by
    rcases List.mem_cons.1 hp with rfl | hp
    · exact ⟨Bk.new _ _ _, by have := h.src.lt; simp only; omega⟩
    · exact ⟨(h.arr p hp).1.alloc _, (h.arr p hp).2⟩⟩
theorem Mid.ale (h : Mid w0 g A c l k L w) (x y z : Int) : Mid w0 g A c l k L (w.alloc (.cells #[.int .i64 x, .int .i64 y, .int .i64 z] 83)) :=
  ⟨h.src.alloc _, h.gr.trans (World.grownBy_alloc _ _ _), fun p hp => ⟨(h.arr p hp).1.alloc _, (h.arr p hp).2⟩⟩
theorem Mid.al2 (h : Mid w0 g A c l k L w) (a b : Int) : Mid w0 g A c l k ((w.heap.size, [a, b]) :: L) (w.alloc (.cells #[.int .i64 a, .int .i64 b] 2)) :=
  ⟨h.src.alloc _, h.gr.trans (World.grownBy_alloc _ _ _), fun p hp => by
    rcases List.mem_cons.1 hp with rfl | hp
    · exact ⟨Bk.new _ _ _, by have := h.src.lt; simp only; omega⟩
    · exact ⟨(h.arr p hp).1.alloc _, (h.arr p hp).2⟩⟩
theorem Mid.any (h : Mid w0 g A c l k L w) (o : Obj) : Mid w0 g A c l k L (w.alloc o) :=
  ⟨h.src.alloc _, h.gr.trans (World.grownBy_alloc _ _ _), fun p hp => ⟨(h.arr p hp).1.alloc _, (h.arr p hp).2⟩⟩
theorem Src.same {j : Nat} (h : Src w g A c l k) (h' : Src w g A c l j) : k = j := by
  have a := h.blk.cell 1
  have b := h'.blk.cell 1
  rw [a] at b
  simp at b
  omega
theorem pick_mid (h : Nat) (zs : List Int) (E : ∃ k L, Mid w0 g A c l k L w ∧ k ≤ 4000 ∧ (h, zs) ∈ L) (hz : 0 < zs.length) (hz2 : zs.length ≤ 1000) :
    Calls Tryz.prog 26 #[.pointer (some ⟨g, 0, none⟩), .slice (some ⟨h, 0, none⟩) zs.length zs.length] w fun e w' => ∃ r : Int, e = .returned (.int .i64 r) ∧ ∀ k L, Mid w0 g A c l k L w → Mid w0 g A c l (k + 1) L w' := by
  obtain ⟨k, L, M, hk, hm⟩ := E
  refine (l1Pick_any g k h zs A c l 2 w M.src hk hz hz2 (M.arr _ hm).1 (M.arr _ hm).2).mono ?_
  rintro e w1 ⟨r, rfl, _, S1, g1⟩
  refine ⟨r, rfl, fun j L' M' => ?_⟩
  obtain rfl := M.src.same M'.src
  exact ⟨S1, M'.gr.trans g1, fun p hp => ⟨(M'.arr p hp).1.grown g1 (by have := (M'.arr p hp).2; simpa using this), (M'.arr p hp).2⟩⟩
end
theorem rdE_new (w : World) (x : Ev) (t : TypeId) : RdE (w.alloc (.cells #[.int .i64 x.k, .int .i64 x.a, .int .i64 x.v] t)) (w.heap.size + 1) (some ⟨w.heap.size, 0, none⟩) [x] := by
  intro _
  refine ⟨w.heap.size, 0, rfl, Nat.lt_succ_self _, fun i hi => ?_⟩
  have hi' : i < 3 := by simpa [evs] using hi
  rw [Nat.zero_add, (Bk.new w #[.int .i64 x.k, .int .i64 x.a, .int .i64 x.v] t).cell i]
  rcases (show i = 0 ∨ i = 1 ∨ i = 2 by omega) with rfl | rfl | rfl <;> rfl
end Go.Proofs.YtldepledinolmaaGreatDoor
