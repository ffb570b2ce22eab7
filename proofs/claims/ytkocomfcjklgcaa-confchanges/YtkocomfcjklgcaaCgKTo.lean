import Derived.Test.YtkocomfcjklgcaaCgI
namespace Go.Proofs.Ytkocomfcjklgcaa
open Go.RowKit Go.Shelf
theorem box15_new (w1 : World) (p : Option Addr) (n c : Nat) (q : Option Addr) (m d : Nat) (f : Conf10) :
    ConfAt (w1.alloc (.cells #[.slice p n c, .slice q m d] 24)) w1.heap.size ⟨⟨p, n, c⟩, ⟨q, m, d⟩, f⟩ ∧
      Below w1.heap.size w1 (w1.alloc (.cells #[.slice p n c, .slice q m d] 24)) :=
  ⟨heap_alloc_new w1 _, (Below.refl _ _).alloc (Nat.le_refl _) _⟩
theorem box15_put {w1 : World} {b : Nat} {x : ConfV} (h : ConfAt w1 b x) (p : Option Addr) (n c : Nat) (q : Option Addr) (m d : Nat) (f : Conf10) :
    ConfAt ((w1.setCell ⟨b, 0, none⟩ (.slice p n c)).setCell ⟨b, 1, none⟩ (.slice q m d)) b ⟨⟨p, n, c⟩, ⟨q, m, d⟩, f⟩ := fillF15 h p n c q m d f

theorem live15_1 : change15 ⟨[1, 2, 3], []⟩ 4 2 = (⟨[1, 3], []⟩, 0) := by kernel_rfl
theorem live15_2 : change15 ⟨[1, 3], []⟩ 2 4 = (⟨[1, 3], [4]⟩, 0) := by kernel_rfl
theorem live15_3 : change15 ⟨[1, 3], [4]⟩ 3 4 = (⟨[1, 3, 4], []⟩, 0) := by kernel_rfl
theorem live15_0 : begin15 3 = [1, 2, 3] := by decide +kernel
theorem live15_4 : undo15 1 = 4 := by decide +kernel

set_option maxRecDepth 100000 in
set_option maxHeartbeats 4000000 in
theorem lives15 (w : World) : Calls Try.prog 9 #[] w fun e w' => e = .returned (.bool true) ∧ Below w.heap.size w w' := by
  go_enter Try.func9, Try.ntmps9
  go_wp2_with fail
  refine (begin_any 3 w (by omega)).mono ?_
  rintro e w1 ⟨⟨⟨p, n, c⟩, ⟨q, m, d⟩, f⟩, rfl, hf, hO1, hb1⟩
  rw [live15_0] at hf
  dsimp only at hf
  subst hf
  unfold ConfV.arr
  dsimp only
  obtain ⟨hx2, hb2⟩ := box15_new w1 p n c q m d ⟨[1, 2, 3], []⟩
  have hB2 := hb1.trans (hb2.mono hb1.size)
  have hF2 := (hO1.below hb2).fits
  have k2 := change_any _ 4 2 _ hF2
  dsimp only [ConfV.arr] at k2
  rw [live15_1] at k2
  clear hO1 hb2 hF2
  have hs1 := hb1.size
  go_wp2_with fail
  generalize w1.alloc (.cells #[.slice p n c, .slice q m d] 24) = W2 at *
  generalize hb : w1.heap.size = b at *
  clear hb hb1
  refine k2.mono ?_
  rintro e w3 ⟨⟨⟨p3, n3, c3⟩, ⟨q3, m3, d3⟩, f⟩, rfl, hf, hO3, hb3⟩
  dsimp only at hf
  subst hf
  dsimp only
  have hx3 : w3.heap[b]? = some (.cells #[.slice p n c, .slice q m d] 24 (0, 0)) := box_below hx2 hb3
  have hB3 := hB2.trans (hb3.mono hB2.size)
  have hx4 := box15_put (x := ⟨⟨p, n, c⟩, ⟨q, m, d⟩, ⟨[1, 2, 3], []⟩⟩) hx3 p3 n3 c3 q3 m3 d3 ⟨[1, 3], []⟩
  have hlt := box_lt hx2
  have hO4 := (hO3.cell hlt 0 (.slice p3 n3 c3)).cell hlt 1 (.slice q3 m3 d3)
  have hB4 := (hB3.setCell (p := ⟨b, 0, none⟩) hs1 (.slice p3 n3 c3)).setCell (p := ⟨b, 1, none⟩) hs1 (.slice q3 m3 d3)
  have k4 := change_any _ 2 4 _ hO4.fits
  dsimp only [ConfV.arr] at k4
  rw [live15_2] at k4
  have cr0 := box_cell hx3 0
  have cr1 := box_cell hx3 1
  have fr0 := frozen15 hx3 0
  have fr1 := frozen15 hx3 1
  have hlt3 := box_lt hx3
  clear hx2 hB2 k2 hO3 hb3 hB3
  go_wp2_with fail
  generalize (w3.setCell ⟨b, 0, none⟩ (.slice p3 n3 c3)).setCell ⟨b, 1, none⟩ (.slice q3 m3 d3) = W4 at *
  clear cr0 cr1 fr0 fr1 hlt3 hlt hx3
  refine k4.mono ?_
  rintro e w5 ⟨⟨⟨p5, n5, c5⟩, ⟨q5, m5, d5⟩, f⟩, rfl, hf, hO5, hb5⟩
  dsimp only at hf
  subst hf
  dsimp only
  have hB5 := hB4.trans (hb5.mono hB4.size)
  have hx5 := box_below hx4 hb5
  have hO5c := hO4.below hb5
  obtain ⟨hy6, hb6⟩ := box15_new w5 p5 n5 c5 q5 m5 d5 ⟨[1, 3], [4]⟩
  have hx6 := box_below hx5 hb6
  have hB6 := hB5.trans (hb6.mono hB5.size)
  have hO6c := hO5c.below hb6
  have k6 := change_any _ 3 4 _ (hO5.below hb6).fits
  dsimp only [ConfV.arr] at k6
  rw [live15_3] at k6
  have hs5 := hB5.size
  have hlt5 := box_lt hx5
  have hF5 := hO5c.fits
  clear hx4 hx5 hB4 k4 hO4 hO5 hb5 hO5c hO6c hB5
  go_wp2_with fail
  generalize w5.alloc (.cells #[.slice p5 n5 c5, .slice q5 m5 d5] 24) = W6 at *
  refine k6.mono ?_
  rintro e w7 ⟨⟨⟨p7, n7, c7⟩, ⟨q7, m7, d7⟩, f⟩, rfl, hf, hO7, hb7⟩
  dsimp only at hf
  subst hf
  dsimp only
  have hB7 := hB6.trans (hb7.mono hB6.size)
  have hx7 : w7.heap[b]? = some (.cells #[.slice p3 n3 c3, .slice q3 m3 d3] 24 (0, 0)) := box_below hx6 hb7
  have hy7 : w7.heap[w5.heap.size]? = some (.cells #[.slice p5 n5 c5, .slice q5 m5 d5] 24 (0, 0)) := box_below hy6 hb7
  have hy8 : ((w7.setCell ⟨w5.heap.size, 0, none⟩ (.slice p7 n7 c7)).setCell ⟨w5.heap.size, 1, none⟩ (.slice q7 m7 d7)).heap[w5.heap.size]? = some (.cells #[.slice p7 n7 c7, .slice q7 m7 d7] 24 (0, 0)) := box15_put (x := ⟨⟨p5, n5, c5⟩, ⟨q5, m5, d5⟩, ⟨[1, 3], [4]⟩⟩) hy7 p7 n7 c7 q7 m7 d7 ⟨[1, 3, 4], []⟩
  have hx8 : ((w7.setCell ⟨w5.heap.size, 0, none⟩ (.slice p7 n7 c7)).setCell ⟨w5.heap.size, 1, none⟩ (.slice q7 m7 d7)).heap[b]? = some (.cells #[.slice p3 n3 c3, .slice q3 m3 d3] 24 (0, 0)) := by
    rw [← hx7]
    simp [World.setCell, Array.getElem?_modify, show w5.heap.size ≠ b by omega]
  have hlt6 := box_lt hy6
  have hF8 := ((hO7.cell hlt6 0 (.slice p7 n7 c7)).cell hlt6 1 (.slice q7 m7 d7)).fits
  have hG8 := hF5.below (((hb6.trans (hb7.mono hb6.size)).setCell (p := ⟨w5.heap.size, 0, none⟩) (Nat.le_refl _) (.slice p7 n7 c7)).setCell (p := ⟨w5.heap.size, 1, none⟩) (Nat.le_refl _) (.slice q7 m7 d7))
  have hB8 := (hB7.setCell (p := ⟨w5.heap.size, 0, none⟩) hs5 (.slice p7 n7 c7)).setCell (p := ⟨w5.heap.size, 1, none⟩) hs5 (.slice q7 m7 d7)
  have cr0 := box_cell hy7 0
  have cr1 := box_cell hy7 1
  have fr0 := frozen15 hy7 0
  have fr1 := frozen15 hy7 1
  have hlt7 := box_lt hy7
  have hz := hF8.v.len.1
  have hI1 := fun W u (hw : Below ((w7.setCell ⟨w5.heap.size, 0, none⟩ (.slice p7 n7 c7)).setCell ⟨w5.heap.size, 1, none⟩ (.slice q7 m7 d7)).heap.size ((w7.setCell ⟨w5.heap.size, 0, none⟩ (.slice p7 n7 c7)).setCell ⟨w5.heap.size, 1, none⟩ (.slice q7 m7 d7)) W) (hu : HasI W u [1, 3]) => ints10_any _ u _ _ W (hG8.u.below hw (Nat.le_refl _)) hu (by show 2 ≤ _; omega) (by decide)
  have hI2 := fun W u (hw : Below ((w7.setCell ⟨w5.heap.size, 0, none⟩ (.slice p7 n7 c7)).setCell ⟨w5.heap.size, 1, none⟩ (.slice q7 m7 d7)).heap.size ((w7.setCell ⟨w5.heap.size, 0, none⟩ (.slice p7 n7 c7)).setCell ⟨w5.heap.size, 1, none⟩ (.slice q7 m7 d7)) W) (hu : HasI W u [1, 3, 4]) => ints10_any _ u _ _ W (hF8.u.below hw (Nat.le_refl _)) hu (by show 3 ≤ _; omega) (by decide)
  dsimp only at hI1 hI2 hz
  clear hx6 hy6 hF5 k6 hb6 hB6 hO7 hb7 hB7 hx7 hF8 hG8
  go_upto_region 5 with fail
  generalize (w7.setCell ⟨w5.heap.size, 0, none⟩ (.slice p7 n7 c7)).setCell ⟨w5.heap.size, 1, none⟩ (.slice q7 m7 d7) = W8 at *
  clear cr0 cr1 fr0 fr1 hlt7 hy7 hlt6
  have d0 := box_cell hx8 0
  have d1 := box_cell hy8 0
  have d2 := box_cell hy8 1
  have l1 := box_lt hx8
  have l2 := box_lt hy8
  have b1 : Below W8.heap.size W8 (W8.alloc (.cells #[.int .i64 1, .int .i64 3] 3)) := (Below.refl _ _).alloc (Nat.le_refl _) _
  have j1 := hI1 _ _ b1 (HasI.lit W8 [1, 3] 3)
  rw [show decide (([1, 3] : List Int) = [1, 3]) = true from rfl] at j1
  have hu1 := live15_4
  have hz' : m7 = 0 := hz.symm
  subst hz'
  have HI2 : Hid _ := hI2
  clear hz hI1 hI2
  go_wp2_with fail
  refine j1.mono ?_
  rintro e w9 ⟨rfl, hb9⟩
  have hb89 : Below W8.heap.size W8 w9 := b1.trans (hb9.mono b1.size)
  have hy9 : w9.heap[w5.heap.size]? = some (.cells #[.slice p7 n7 c7, .slice q7 0 d7] 24 (0, 0)) := box_below hy8 hb89
  have e1 := box_cell hy9 0
  have e2 := box_cell hy9 1
  have l3 := box_lt hy9
  have b2 : Below W8.heap.size W8 (w9.alloc (.cells #[.int .i64 1, .int .i64 3, .int .i64 4] 3)) := hb89.alloc hb89.size _
  have j2 := HI2.out _ _ b2 (HasI.lit w9 [1, 3, 4] 3)
  simp only [decide_true] at j2
  clear d0 d1 d2 l1 l2 j1 b1 hb9 HI2 hx8 hy8
  go_wp2_with fail
  refine j2.mono ?_
  rintro e w10 ⟨rfl, hb10⟩
  have hb810 := b2.trans (hb10.mono b2.size)
  have hy10 : w10.heap[w5.heap.size]? = some (.cells #[.slice p7 n7 c7, .slice q7 0 d7] 24 (0, 0)) := box_below (box_below hy9 ((Below.refl w9.heap.size w9).alloc (Nat.le_refl _) _)) hb10
  have f0 := box_cell hy10 0
  have f1 := box_cell hy10 1
  have l4 := box_lt hy10
  clear j2 e1 e2 l3 hb10 hy9 hb89 b2
  have ku := undo15_any 1 w10
  rw [hu1] at ku
  go_wp2_with fail
  refine same_mono ku ?_
  go_wp2
  go_ret
  exact ⟨rfl, hB8.trans (hb810.mono hB8.size)⟩
theorem ints_same15 (u v : Value) (xs : List Int) (w : World) (hx : HasI w u xs) (hy : HasI w v xs) (l : xs.length ≤ 17592186044416) :
    Calls Try.prog 17 #[u, v] w fun e w' => e = .returned (.bool true) ∧ Below w.heap.size w w' := by
  have h := ints10_any u v xs xs w hx hy l l
  rwa [decide_eq_true rfl] at h
end Go.Proofs.Ytkocomfcjklgcaa
