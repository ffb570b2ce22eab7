/-
  The walk of EntryTells.
-/
import Derived.Test.YtnbaoimjcaeeaaaEn5
import Derived.Test.YtnbaoimjcaeeaaaEn6
import Derived.Test.YtnbaoimjcaeeaaaEn7
import Derived.Test.YtnbaoimjcaeeaaaHRowE
namespace Go.Proofs.Ytnbaoimjcaeeaaa
open Go.RowKit Go.Shelf

/-- Two entries' boxes, and old memory as it was. -/
def BoxE2 (w0 w : World) (a b : Nat) (x y : EntV) : Prop := EntAt w a x ∧ EntAt w b y ∧ Below w0.heap.size w0 w
theorem BoxE2.new (w : World) (x y : EntV) : BoxE2 w ((w.alloc (.cells x.arr 28)).alloc (.cells y.arr 28)) w.heap.size (w.heap.size + 1) x y := by
  have hb1 : Below w.heap.size w (w.alloc (.cells x.arr 28)) := (Below.refl _ _).alloc (Nat.le_refl _) _
  have hbx : EntAt (w.alloc (.cells x.arr 28)) w.heap.size x := heap_alloc_new w _
  have hz1 : (w.alloc (.cells x.arr 28)).heap.size = w.heap.size + 1 := by simp
  have hb2 := (Below.refl _ (w.alloc (.cells x.arr 28))).alloc (Nat.le_refl _) (.cells y.arr 28)
  have hby : EntAt ((w.alloc (.cells x.arr 28)).alloc (.cells y.arr 28)) (w.heap.size + 1) y := by rw [← hz1]; exact heap_alloc_new _ _
  exact ⟨box_below hbx hb2, hby, hb1.trans (hb2.mono hb1.size)⟩
theorem BoxE2.below {w0 w w' : World} {a b : Nat} {x y : EntV} (h : BoxE2 w0 w a b x y) (hb : Below w.heap.size w w') : BoxE2 w0 w' a b x y := ⟨box_below h.1 hb, box_below h.2.1 hb, h.2.2.trans (hb.mono h.2.2.size)⟩

theorem keepT {w1 wA wB : World} {b d : Nat} {xb0 xb1 xb2 xb3 xb4 xb5 xb6 xb7 xb8 xb9 xb10 xb11 xb12 xd0 xd1 xd2 xd3 xd4 xd5 xd6 xd7 xd8 xd9 xd10 xd11 xd12 : Value} (hlb : b < w1.heap.size) (hld : d < w1.heap.size) (h : wA.cell? ⟨b, 0, none⟩ = some xb0 ∧ wA.cell? ⟨b, 1, none⟩ = some xb1 ∧ wA.cell? ⟨b, 2, none⟩ = some xb2 ∧ wA.cell? ⟨b, 3, none⟩ = some xb3 ∧ wA.cell? ⟨b, 4, none⟩ = some xb4 ∧ wA.cell? ⟨b, 5, none⟩ = some xb5 ∧ wA.cell? ⟨b, 6, none⟩ = some xb6 ∧ wA.cell? ⟨b, 7, none⟩ = some xb7 ∧ wA.cell? ⟨b, 8, none⟩ = some xb8 ∧ wA.cell? ⟨b, 9, none⟩ = some xb9 ∧ wA.cell? ⟨b, 10, none⟩ = some xb10 ∧ wA.cell? ⟨b, 11, none⟩ = some xb11 ∧ wA.cell? ⟨b, 12, none⟩ = some xb12 ∧ wA.cell? ⟨d, 0, none⟩ = some xd0 ∧ wA.cell? ⟨d, 1, none⟩ = some xd1 ∧ wA.cell? ⟨d, 2, none⟩ = some xd2 ∧ wA.cell? ⟨d, 3, none⟩ = some xd3 ∧ wA.cell? ⟨d, 4, none⟩ = some xd4 ∧ wA.cell? ⟨d, 5, none⟩ = some xd5 ∧ wA.cell? ⟨d, 6, none⟩ = some xd6 ∧ wA.cell? ⟨d, 7, none⟩ = some xd7 ∧ wA.cell? ⟨d, 8, none⟩ = some xd8 ∧ wA.cell? ⟨d, 9, none⟩ = some xd9 ∧ wA.cell? ⟨d, 10, none⟩ = some xd10 ∧ wA.cell? ⟨d, 11, none⟩ = some xd11 ∧ wA.cell? ⟨d, 12, none⟩ = some xd12 ∧ Below w1.heap.size w1 wA) (hb : Below wA.heap.size wA wB) :
    wB.cell? ⟨b, 0, none⟩ = some xb0 ∧ wB.cell? ⟨b, 1, none⟩ = some xb1 ∧ wB.cell? ⟨b, 2, none⟩ = some xb2 ∧ wB.cell? ⟨b, 3, none⟩ = some xb3 ∧ wB.cell? ⟨b, 4, none⟩ = some xb4 ∧ wB.cell? ⟨b, 5, none⟩ = some xb5 ∧ wB.cell? ⟨b, 6, none⟩ = some xb6 ∧ wB.cell? ⟨b, 7, none⟩ = some xb7 ∧ wB.cell? ⟨b, 8, none⟩ = some xb8 ∧ wB.cell? ⟨b, 9, none⟩ = some xb9 ∧ wB.cell? ⟨b, 10, none⟩ = some xb10 ∧ wB.cell? ⟨b, 11, none⟩ = some xb11 ∧ wB.cell? ⟨b, 12, none⟩ = some xb12 ∧ wB.cell? ⟨d, 0, none⟩ = some xd0 ∧ wB.cell? ⟨d, 1, none⟩ = some xd1 ∧ wB.cell? ⟨d, 2, none⟩ = some xd2 ∧ wB.cell? ⟨d, 3, none⟩ = some xd3 ∧ wB.cell? ⟨d, 4, none⟩ = some xd4 ∧ wB.cell? ⟨d, 5, none⟩ = some xd5 ∧ wB.cell? ⟨d, 6, none⟩ = some xd6 ∧ wB.cell? ⟨d, 7, none⟩ = some xd7 ∧ wB.cell? ⟨d, 8, none⟩ = some xd8 ∧ wB.cell? ⟨d, 9, none⟩ = some xd9 ∧ wB.cell? ⟨d, 10, none⟩ = some xd10 ∧ wB.cell? ⟨d, 11, none⟩ = some xd11 ∧ wB.cell? ⟨d, 12, none⟩ = some xd12 ∧ Below w1.heap.size w1 wB := by
  obtain ⟨h0, h1, h2, h3, h4, h5, h6, h7, h8, h9, h10, h11, h12, h13, h14, h15, h16, h17, h18, h19, h20, h21, h22, h23, h24, h25, hz⟩ := h
  have hs := hz.size
  exact ⟨(hb.cell (p := ⟨b, 0, none⟩) (by exact Nat.lt_of_lt_of_le hlb hs)).trans h0, (hb.cell (p := ⟨b, 1, none⟩) (by exact Nat.lt_of_lt_of_le hlb hs)).trans h1, (hb.cell (p := ⟨b, 2, none⟩) (by exact Nat.lt_of_lt_of_le hlb hs)).trans h2, (hb.cell (p := ⟨b, 3, none⟩) (by exact Nat.lt_of_lt_of_le hlb hs)).trans h3, (hb.cell (p := ⟨b, 4, none⟩) (by exact Nat.lt_of_lt_of_le hlb hs)).trans h4, (hb.cell (p := ⟨b, 5, none⟩) (by exact Nat.lt_of_lt_of_le hlb hs)).trans h5, (hb.cell (p := ⟨b, 6, none⟩) (by exact Nat.lt_of_lt_of_le hlb hs)).trans h6, (hb.cell (p := ⟨b, 7, none⟩) (by exact Nat.lt_of_lt_of_le hlb hs)).trans h7, (hb.cell (p := ⟨b, 8, none⟩) (by exact Nat.lt_of_lt_of_le hlb hs)).trans h8, (hb.cell (p := ⟨b, 9, none⟩) (by exact Nat.lt_of_lt_of_le hlb hs)).trans h9, (hb.cell (p := ⟨b, 10, none⟩) (by exact Nat.lt_of_lt_of_le hlb hs)).trans h10, (hb.cell (p := ⟨b, 11, none⟩) (by exact Nat.lt_of_lt_of_le hlb hs)).trans h11, (hb.cell (p := ⟨b, 12, none⟩) (by exact Nat.lt_of_lt_of_le hlb hs)).trans h12, (hb.cell (p := ⟨d, 0, none⟩) (by exact Nat.lt_of_lt_of_le hld hs)).trans h13, (hb.cell (p := ⟨d, 1, none⟩) (by exact Nat.lt_of_lt_of_le hld hs)).trans h14, (hb.cell (p := ⟨d, 2, none⟩) (by exact Nat.lt_of_lt_of_le hld hs)).trans h15, (hb.cell (p := ⟨d, 3, none⟩) (by exact Nat.lt_of_lt_of_le hld hs)).trans h16, (hb.cell (p := ⟨d, 4, none⟩) (by exact Nat.lt_of_lt_of_le hld hs)).trans h17, (hb.cell (p := ⟨d, 5, none⟩) (by exact Nat.lt_of_lt_of_le hld hs)).trans h18, (hb.cell (p := ⟨d, 6, none⟩) (by exact Nat.lt_of_lt_of_le hld hs)).trans h19, (hb.cell (p := ⟨d, 7, none⟩) (by exact Nat.lt_of_lt_of_le hld hs)).trans h20, (hb.cell (p := ⟨d, 8, none⟩) (by exact Nat.lt_of_lt_of_le hld hs)).trans h21, (hb.cell (p := ⟨d, 9, none⟩) (by exact Nat.lt_of_lt_of_le hld hs)).trans h22, (hb.cell (p := ⟨d, 10, none⟩) (by exact Nat.lt_of_lt_of_le hld hs)).trans h23, (hb.cell (p := ⟨d, 11, none⟩) (by exact Nat.lt_of_lt_of_le hld hs)).trans h24, (hb.cell (p := ⟨d, 12, none⟩) (by exact Nat.lt_of_lt_of_le hld hs)).trans h25, hz.trans (hb.mono hs)⟩
theorem keepT0 {w1 : World} {b d : Nat} {xb0 xb1 xb2 xb3 xb4 xb5 xb6 xb7 xb8 xb9 xb10 xb11 xb12 xd0 xd1 xd2 xd3 xd4 xd5 xd6 xd7 xd8 xd9 xd10 xd11 xd12 : Value} (h0 : w1.cell? ⟨b, 0, none⟩ = some xb0) (h1 : w1.cell? ⟨b, 1, none⟩ = some xb1) (h2 : w1.cell? ⟨b, 2, none⟩ = some xb2) (h3 : w1.cell? ⟨b, 3, none⟩ = some xb3) (h4 : w1.cell? ⟨b, 4, none⟩ = some xb4) (h5 : w1.cell? ⟨b, 5, none⟩ = some xb5) (h6 : w1.cell? ⟨b, 6, none⟩ = some xb6) (h7 : w1.cell? ⟨b, 7, none⟩ = some xb7) (h8 : w1.cell? ⟨b, 8, none⟩ = some xb8) (h9 : w1.cell? ⟨b, 9, none⟩ = some xb9) (h10 : w1.cell? ⟨b, 10, none⟩ = some xb10) (h11 : w1.cell? ⟨b, 11, none⟩ = some xb11) (h12 : w1.cell? ⟨b, 12, none⟩ = some xb12) (h13 : w1.cell? ⟨d, 0, none⟩ = some xd0) (h14 : w1.cell? ⟨d, 1, none⟩ = some xd1) (h15 : w1.cell? ⟨d, 2, none⟩ = some xd2) (h16 : w1.cell? ⟨d, 3, none⟩ = some xd3) (h17 : w1.cell? ⟨d, 4, none⟩ = some xd4) (h18 : w1.cell? ⟨d, 5, none⟩ = some xd5) (h19 : w1.cell? ⟨d, 6, none⟩ = some xd6) (h20 : w1.cell? ⟨d, 7, none⟩ = some xd7) (h21 : w1.cell? ⟨d, 8, none⟩ = some xd8) (h22 : w1.cell? ⟨d, 9, none⟩ = some xd9) (h23 : w1.cell? ⟨d, 10, none⟩ = some xd10) (h24 : w1.cell? ⟨d, 11, none⟩ = some xd11) (h25 : w1.cell? ⟨d, 12, none⟩ = some xd12) : w1.drew.cell? ⟨b, 0, none⟩ = some xb0 ∧ w1.drew.cell? ⟨b, 1, none⟩ = some xb1 ∧ w1.drew.cell? ⟨b, 2, none⟩ = some xb2 ∧ w1.drew.cell? ⟨b, 3, none⟩ = some xb3 ∧ w1.drew.cell? ⟨b, 4, none⟩ = some xb4 ∧ w1.drew.cell? ⟨b, 5, none⟩ = some xb5 ∧ w1.drew.cell? ⟨b, 6, none⟩ = some xb6 ∧ w1.drew.cell? ⟨b, 7, none⟩ = some xb7 ∧ w1.drew.cell? ⟨b, 8, none⟩ = some xb8 ∧ w1.drew.cell? ⟨b, 9, none⟩ = some xb9 ∧ w1.drew.cell? ⟨b, 10, none⟩ = some xb10 ∧ w1.drew.cell? ⟨b, 11, none⟩ = some xb11 ∧ w1.drew.cell? ⟨b, 12, none⟩ = some xb12 ∧ w1.drew.cell? ⟨d, 0, none⟩ = some xd0 ∧ w1.drew.cell? ⟨d, 1, none⟩ = some xd1 ∧ w1.drew.cell? ⟨d, 2, none⟩ = some xd2 ∧ w1.drew.cell? ⟨d, 3, none⟩ = some xd3 ∧ w1.drew.cell? ⟨d, 4, none⟩ = some xd4 ∧ w1.drew.cell? ⟨d, 5, none⟩ = some xd5 ∧ w1.drew.cell? ⟨d, 6, none⟩ = some xd6 ∧ w1.drew.cell? ⟨d, 7, none⟩ = some xd7 ∧ w1.drew.cell? ⟨d, 8, none⟩ = some xd8 ∧ w1.drew.cell? ⟨d, 9, none⟩ = some xd9 ∧ w1.drew.cell? ⟨d, 10, none⟩ = some xd10 ∧ w1.drew.cell? ⟨d, 11, none⟩ = some xd11 ∧ w1.drew.cell? ⟨d, 12, none⟩ = some xd12 ∧ Below w1.heap.size w1 w1.drew :=
  ⟨h0, h1, h2, h3, h4, h5, h6, h7, h8, h9, h10, h11, h12, h13, h14, h15, h16, h17, h18, h19, h20, h21, h22, h23, h24, h25, ⟨rfl, rfl, rfl, Nat.le_refl _, fun _ _ => rfl⟩⟩
theorem keepTB {w1 wA : World} {b d : Nat} {xb0 xb1 xb2 xb3 xb4 xb5 xb6 xb7 xb8 xb9 xb10 xb11 xb12 xd0 xd1 xd2 xd3 xd4 xd5 xd6 xd7 xd8 xd9 xd10 xd11 xd12 : Value} (h : wA.cell? ⟨b, 0, none⟩ = some xb0 ∧ wA.cell? ⟨b, 1, none⟩ = some xb1 ∧ wA.cell? ⟨b, 2, none⟩ = some xb2 ∧ wA.cell? ⟨b, 3, none⟩ = some xb3 ∧ wA.cell? ⟨b, 4, none⟩ = some xb4 ∧ wA.cell? ⟨b, 5, none⟩ = some xb5 ∧ wA.cell? ⟨b, 6, none⟩ = some xb6 ∧ wA.cell? ⟨b, 7, none⟩ = some xb7 ∧ wA.cell? ⟨b, 8, none⟩ = some xb8 ∧ wA.cell? ⟨b, 9, none⟩ = some xb9 ∧ wA.cell? ⟨b, 10, none⟩ = some xb10 ∧ wA.cell? ⟨b, 11, none⟩ = some xb11 ∧ wA.cell? ⟨b, 12, none⟩ = some xb12 ∧ wA.cell? ⟨d, 0, none⟩ = some xd0 ∧ wA.cell? ⟨d, 1, none⟩ = some xd1 ∧ wA.cell? ⟨d, 2, none⟩ = some xd2 ∧ wA.cell? ⟨d, 3, none⟩ = some xd3 ∧ wA.cell? ⟨d, 4, none⟩ = some xd4 ∧ wA.cell? ⟨d, 5, none⟩ = some xd5 ∧ wA.cell? ⟨d, 6, none⟩ = some xd6 ∧ wA.cell? ⟨d, 7, none⟩ = some xd7 ∧ wA.cell? ⟨d, 8, none⟩ = some xd8 ∧ wA.cell? ⟨d, 9, none⟩ = some xd9 ∧ wA.cell? ⟨d, 10, none⟩ = some xd10 ∧ wA.cell? ⟨d, 11, none⟩ = some xd11 ∧ wA.cell? ⟨d, 12, none⟩ = some xd12 ∧ Below w1.heap.size w1 wA) : Below w1.heap.size w1 wA := h.2.2.2.2.2.2.2.2.2.2.2.2.2.2.2.2.2.2.2.2.2.2.2.2.2.2


set_option maxRecDepth 100000 in
set_option maxHeartbeats 8000000 in
theorem tells10_walk (x y : EntV) (w : World) (hx : FitsE w x) (hy : FitsE w y) : Calls Try.prog 3 #[.agg x.arr, .agg y.arr] w fun e w' => e = .returned (.bool true) ∧ Below w.heap.size w w' := by
  have k9 := fun w => lives10_any w
  have hT0 := BoxE2.new w x y
  have w1 := fun W (h : Below w.heap.size w W) => weight_any x W (hx.below h)
  have w2' := fun W (h : Below w.heap.size w W) => weight_any y W (hy.below h)
  have HW2 : Hid _ := w2'
  have kw := w1 _ hT0.2.2
  by_cases h1 : 400 < weightE x.e
  · generalize weightE x.e = wx at *
    have h1' : (400 : Int) < (wx : Int) := by omega
    clear hx hy w1 w2' HW2
    obtain ⟨i, t, k, ⟨ck, cs, cq, ckey, cold, cval, cunt, clim⟩, ⟨⟨p, n, c⟩, ⟨q, m, d⟩, f⟩⟩ := x
    obtain ⟨i', t', k', ⟨ck', cs', cq', ckey', cold', cval', cunt', clim'⟩, ⟨⟨p', n', c'⟩, ⟨q', m', d'⟩, f'⟩⟩ := y
    unfold EntV.arr at *
    dsimp only at *
    go_enter Try.func3, Try.ntmps3
    go_wp2_with fail
    refine kw.mono ?_
    rintro e w2 ⟨rfl, hb2⟩
    have hT2 := hT0.below hb2
    go_wp2_with fail
    refine (k9 _).mono ?_
    rintro e w3 ⟨rfl, hb3⟩
    have hT3 := hT2.below hb3
    go_wp2
    go_ret
    exact ⟨rfl, hT3.2.2⟩
  have few1 := weight_few (n := weightE x.e) (Nat.le_refl _) (by omega)
  by_cases h2 : 400 < weightE y.e
  · generalize weightE x.e = wx at *
    generalize weightE y.e = wy at *
    have h1' : ¬ (400 : Int) < (wx : Int) := by omega
    have h2' : (400 : Int) < (wy : Int) := by omega
    clear hx hy w1 w2' few1
    obtain ⟨i, t, k, ⟨ck, cs, cq, ckey, cold, cval, cunt, clim⟩, ⟨⟨p, n, c⟩, ⟨q, m, d⟩, f⟩⟩ := x
    obtain ⟨i', t', k', ⟨ck', cs', cq', ckey', cold', cval', cunt', clim'⟩, ⟨⟨p', n', c'⟩, ⟨q', m', d'⟩, f'⟩⟩ := y
    unfold EntV.arr at *
    dsimp only at *
    go_enter Try.func3, Try.ntmps3
    go_wp2_with fail
    refine kw.mono ?_
    rintro e w2 ⟨rfl, hb2⟩
    have hT2 := hT0.below hb2
    have kw2 := HW2.out _ hT2.2.2
    obtain ⟨d0, d1, d2, d3, d4, d5, d6, d7, d8, d9, d10, d11, d12⟩ := hT2.2.1.cells
    dsimp only at d0 d1 d2 d3 d4 d5 d6 d7 d8 d9 d10 d11 d12
    have hlt := box_lt hT2.2.1
    clear kw hT0 hb2
    generalize hz : w.heap.size + 1 = z at *
    clear hz
    go_wp2_with fail
    refine kw2.mono ?_
    rintro e w3 ⟨rfl, hb3⟩
    have hT3 := hT2.below hb3
    clear d0 d1 d2 d3 d4 d5 d6 d7 d8 d9 d10 d11 d12 kw2 hT2 hb3
    go_wp2_with fail
    refine (k9 _).mono ?_
    rintro e w4 ⟨rfl, hb4⟩
    have hT4 := hT3.below hb4
    go_wp2
    go_ret
    exact ⟨rfl, hT4.2.2⟩
  have few2 := weight_few (n := weightE y.e) (Nat.le_refl _) (by omega)
  have fx : ∀ W, Below w.heap.size w W → FitsE W x := fun W h => hx.below h
  have fy : ∀ W, Below w.heap.size w W → FitsE W y := fun W h => hy.below h
  have HB : Hid (IsB (entB x.e)) := entB_isB x.e
  have m1 : Hid (∀ W, Below w.heap.size w W → Calls Try.prog 9 #[.agg x.arr] W fun e w' => e = .returned (.bool (goodE10 x.e)) ∧ Below W.heap.size W w') := fun W h => goodE_any x W (fx W h)
  have m2 : Hid (∀ W, Below w.heap.size w W → Calls Try.prog 10 #[.agg x.arr] W fun e w' => e = .returned (.bool (goodE10 x.e)) ∧ Below W.heap.size W w') := fun W h => rgoodE_any x W (fx W h)
  have m3 : Hid (∀ W, Below w.heap.size w W → Calls Try.prog 11 #[.agg x.f.arr] W fun e w' => e = .returned (.bool (goodF10 x.f.f)) ∧ Below W.heap.size W w') := fun W h => goodConf_any x.f W (fx W h).f
  have m4 : Hid (∀ W, Below w.heap.size w W → Calls Try.prog 12 #[.agg x.f.arr] W fun e w' => e = .returned (.bool (goodF10 x.f.f)) ∧ Below W.heap.size W w') := fun W h => rgoodConf_any x.f W (fx W h).f
  have m5 : Hid (∀ W, Below w.heap.size w W → Calls Try.prog 14 #[.agg x.arr] W fun e w' => ∃ v, e = .returned v ∧ Owns w' W.heap.size 5 v (entB x.e) ∧ Below W.heap.size W w') := fun W h => bytesE_any W x (fx W h).f few1.1 few1.2
  have m6 : Hid (∀ W, Below w.heap.size w W → Calls Try.prog 15 #[.agg x.arr] W fun e w' => ∃ v, e = .returned v ∧ Has w' v (entB x.e) ∧ Below W.heap.size W w') := fun W h => rbytesE_any W x (fx W h).f few1.1 few1.2
  have m7 : Hid (∀ W, Below w.heap.size w W → Calls Try.prog 16 #[.agg x.arr, .agg y.arr] W fun e w' => e = .returned (.bool (sameE10 x.e y.e)) ∧ Below W.heap.size W w') := fun W h => sameE_any x y W (fx W h).f (fy W h).f
  have m8 : Hid (∀ W, Below w.heap.size w W → Calls Try.prog 17 #[.agg x.arr, .agg y.arr] W fun e w' => e = .returned (.bool (sameE10 x.e y.e)) ∧ Below W.heap.size W w') := fun W h => rsameE_any x y W (fx W h).f (fy W h).f
  have m9 : Hid (∀ W, Below w.heap.size w W → Calls Try.prog 18 #[.agg x.f.arr, .agg y.f.arr] W fun e w' => e = .returned (.bool (sameF10 x.f.f y.f.f)) ∧ Below W.heap.size W w') := fun W h => sameConf_any x.f y.f W (fx W h).f (fy W h).f
  have m10 : Hid (∀ W, Below w.heap.size w W → Calls Try.prog 19 #[.agg x.f.arr, .agg y.f.arr] W fun e w' => e = .returned (.bool (sameF10 x.f.f y.f.f)) ∧ Below W.heap.size W w') := fun W h => rsameConf_any x.f y.f W (fx W h).f (fy W h).f
  generalize goodE10 x.e = r1 at *
  generalize goodF10 x.f.f = r2 at *
  generalize entB x.e = xs at *
  generalize sameE10 x.e y.e = r3 at *
  generalize sameF10 x.f.f y.f.f = r4 at *
  generalize weightE x.e = wx at *
  generalize weightE y.e = wy at *
  have h1' : ¬ (400 : Int) < (wx : Int) := by omega
  have h2' : ¬ (400 : Int) < (wy : Int) := by omega
  clear hx hy w1 w2' few1 few2 fx fy h1 h2
  obtain ⟨i, t, k, ⟨ck, cs, cq, ckey, cold, cval, cunt, clim⟩, ⟨⟨p, n, c⟩, ⟨q, m, d⟩, f⟩⟩ := x
  obtain ⟨i', t', k', ⟨ck', cs', cq', ckey', cold', cval', cunt', clim'⟩, ⟨⟨p', n', c'⟩, ⟨q', m', d'⟩, f'⟩⟩ := y
  unfold EntV.arr at *
  unfold ConfV.arr at *
  dsimp only at *
  go_enter Try.func3, Try.ntmps3
  go_wp2_with fail
  refine kw.mono ?_
  rintro e w1 ⟨rfl, hb1⟩
  have hT1 := hT0.below hb1
  have kw2 := HW2.out _ hT1.2.2
  obtain ⟨d0, d1, d2, d3, d4, d5, d6, d7, d8, d9, d10, d11, d12⟩ := hT1.2.1.cells
  dsimp only at d0 d1 d2 d3 d4 d5 d6 d7 d8 d9 d10 d11 d12
  have hlt := box_lt hT1.2.1
  clear kw hT0 hb1
  generalize hz : w.heap.size + 1 = e at *
  clear hz
  go_wp2_with fail
  refine kw2.mono ?_
  rintro _ w2 ⟨rfl, hb2⟩
  have hT2 := hT1.below hb2
  clear d0 d1 d2 d3 d4 d5 d6 d7 d8 d9 d10 d11 d12 kw2 hT1 hb2 hlt HW2
  obtain ⟨c0, c1, c2, c3, c4, c5, c6, c7, c8, c9, c10, c11, c12⟩ := hT2.1.cells
  obtain ⟨d0, d1, d2, d3, d4, d5, d6, d7, d8, d9, d10, d11, d12⟩ := hT2.2.1.cells
  dsimp only at c0 c1 c2 c3 c4 c5 c6 c7 c8 c9 c10 c11 c12 d0 d1 d2 d3 d4 d5 d6 d7 d8 d9 d10 d11 d12
  have hlc := box_lt hT2.1
  have hld := box_lt hT2.2.1
  have s0 := keepT0 c0 c1 c2 c3 c4 c5 c6 c7 c8 c9 c10 c11 c12 d0 d1 d2 d3 d4 d5 d6 d7 d8 d9 d10 d11 d12
  have up : ∀ W, Below w2.heap.size w2 W → Below w.heap.size w W := fun W h => hT2.2.2.trans (h.mono hT2.2.2.size)
  have n1' := fun W h => m1.out W (up W h)
  have n2' := fun W h => m2.out W (up W h)
  have n3' := fun W h => m3.out W (up W h)
  have n4' := fun W h => m4.out W (up W h)
  have n5' := fun W h => m5.out W (up W h)
  have n6' := fun W h => m6.out W (up W h)
  have n7' := fun W h => m7.out W (up W h)
  have n8' := fun W h => m8.out W (up W h)
  have n9' := fun W h => m9.out W (up W h)
  have n10' := fun W h => m10.out W (up W h)
  have hsm : ∀ (x y : Value) (W : World), Has W x xs → Has W y xs → Calls Try.prog 13 #[x, y] W fun e w' => e = .returned (.bool true) ∧ w' = W := fun x y W hx hy => by
    have := same_any x y xs xs W hx hy HB.out HB.out
    rwa [beq_self_eq_true] at this
  clear c0 c1 c2 c3 c4 c5 c6 c7 c8 c9 c10 c11 c12 d0 d1 d2 d3 d4 d5 d6 d7 d8 d9 d10 d11 d12 up HB m1 m2 m3 m4 m5 m6 m7 m8 m9 m10
  generalize w.heap.size = b at *
  go_wp2_with fail
  go_region_held3 (fun w' => w'.cell? ⟨b, 0, none⟩ = some (.int .i64 i) ∧ w'.cell? ⟨b, 1, none⟩ = some (.int .i64 t) ∧ w'.cell? ⟨b, 2, none⟩ = some (.int .i64 k) ∧ w'.cell? ⟨b, 3, none⟩ = some (.int .i64 ck) ∧ w'.cell? ⟨b, 4, none⟩ = some (.int .i64 cs) ∧ w'.cell? ⟨b, 5, none⟩ = some (.int .i64 cq) ∧ w'.cell? ⟨b, 6, none⟩ = some (.string ckey) ∧ w'.cell? ⟨b, 7, none⟩ = some (.string cold) ∧ w'.cell? ⟨b, 8, none⟩ = some (.string cval) ∧ w'.cell? ⟨b, 9, none⟩ = some (.string cunt) ∧ w'.cell? ⟨b, 10, none⟩ = some (.int .i64 clim) ∧ w'.cell? ⟨b, 11, none⟩ = some (.slice p n c) ∧ w'.cell? ⟨b, 12, none⟩ = some (.slice q m d) ∧ w'.cell? ⟨e, 0, none⟩ = some (.int .i64 i') ∧ w'.cell? ⟨e, 1, none⟩ = some (.int .i64 t') ∧ w'.cell? ⟨e, 2, none⟩ = some (.int .i64 k') ∧ w'.cell? ⟨e, 3, none⟩ = some (.int .i64 ck') ∧ w'.cell? ⟨e, 4, none⟩ = some (.int .i64 cs') ∧ w'.cell? ⟨e, 5, none⟩ = some (.int .i64 cq') ∧ w'.cell? ⟨e, 6, none⟩ = some (.string ckey') ∧ w'.cell? ⟨e, 7, none⟩ = some (.string cold') ∧ w'.cell? ⟨e, 8, none⟩ = some (.string cval') ∧ w'.cell? ⟨e, 9, none⟩ = some (.string cunt') ∧ w'.cell? ⟨e, 10, none⟩ = some (.int .i64 clim') ∧ w'.cell? ⟨e, 11, none⟩ = some (.slice p' n' c') ∧ w'.cell? ⟨e, 12, none⟩ = some (.slice q' m' d') ∧ Below w2.heap.size w2 w')
    (first | exact s0 | assumption | exact keepT hlc hld (by assumption) (by assumption))
    (first
      | (go_at_call 9; refine Calls.mono (n1' _ (keepTB (by assumption))) ?_; rintro _ y1 ⟨rfl, g1⟩)
      | (go_at_call 10; refine Calls.mono (n2' _ (keepTB (by assumption))) ?_; rintro _ y2 ⟨rfl, g2⟩)
      | (go_at_call 11; refine Calls.mono (n3' _ (keepTB (by assumption))) ?_; rintro _ y3 ⟨rfl, g3⟩)
      | (go_at_call 12; refine Calls.mono (n4' _ (keepTB (by assumption))) ?_; rintro _ y4 ⟨rfl, g4⟩)
      | (go_at_call 14; refine Calls.mono (n5' _ (keepTB (by assumption))) ?_; rintro _ y5 ⟨v5, rfl, ho5, g5⟩; obtain ⟨p5, q5, rfl, -, -, -⟩ := id ho5.has; replace ho5 := ho5.has)
      | (go_at_call 15; refine Calls.mono (n6' _ (keepTB (by assumption))) ?_; rintro _ y6 ⟨v6, rfl, ho6, g6⟩; obtain ⟨p6, q6, rfl, -, -, -⟩ := id ho6)
      | (go_at_call 13; refine same_mono (hsm _ _ _ (ho5.below g6 (Nat.le_refl _)) ho6) ?_)
      | (go_at_call 16; refine Calls.mono (n7' _ (keepTB (by assumption))) ?_; rintro _ y7 ⟨rfl, g7⟩)
      | (go_at_call 17; refine Calls.mono (n8' _ (keepTB (by assumption))) ?_; rintro _ y8 ⟨rfl, g8⟩)
      | (go_at_call 18; refine Calls.mono (n9' _ (keepTB (by assumption))) ?_; rintro _ y9 ⟨rfl, g9⟩)
      | (go_at_call 19; refine Calls.mono (n10' _ (keepTB (by assumption))) ?_; rintro _ y10 ⟨rfl, g10⟩)
      | (go_at_call 8; refine Calls.mono (k9 _) ?_; rintro _ y11 ⟨rfl, g11⟩))
  all_goals
    go_wp2
    go_ret
    exact ⟨rfl, (hT2.below (keepTB (by assumption))).2.2⟩
end Go.Proofs.Ytnbaoimjcaeeaaa
