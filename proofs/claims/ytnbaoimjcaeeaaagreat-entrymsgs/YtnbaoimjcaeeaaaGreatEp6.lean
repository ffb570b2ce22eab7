/-
  Contracts: corbelref10.Like and SameMsg, of what is the same.
-/
import Derived.Test.YtnbaoimjcaeeaaaGreatEp3
import Derived.Test.YtnbaoimjcaeeaaaGreatEn5To
import Derived.Test.YtnbaoimjcaeeaaaGreatEr4
import Derived.Deep.RegionHeld3
namespace Go.Proofs.YtnbaoimjcaeeaaaGreat
open Go.RowKit Go.Shelf

theorem keepL {w1 wA wB : World} {b1 o1 b2 o2 j : Nat} {u0 u1 u2 u3 u4 u5 u6 u7 u8 u9 u10 u11 u12 u13 u14 u15 u16 u17 u18 u19 u20 u21 u22 u23 u24 u25 : Value} (l1 : b1 < w1.heap.size) (l2 : b2 < w1.heap.size) (h : wA.cell? ⟨b1, o1 + j * 13, none⟩ = some u0 ∧ wA.cell? ⟨b1, o1 + j * 13 + 1, none⟩ = some u1 ∧ wA.cell? ⟨b1, o1 + j * 13 + 2, none⟩ = some u2 ∧ wA.cell? ⟨b1, o1 + j * 13 + 3, none⟩ = some u3 ∧ wA.cell? ⟨b1, o1 + j * 13 + 4, none⟩ = some u4 ∧ wA.cell? ⟨b1, o1 + j * 13 + 5, none⟩ = some u5 ∧ wA.cell? ⟨b1, o1 + j * 13 + 6, none⟩ = some u6 ∧ wA.cell? ⟨b1, o1 + j * 13 + 7, none⟩ = some u7 ∧ wA.cell? ⟨b1, o1 + j * 13 + 8, none⟩ = some u8 ∧ wA.cell? ⟨b1, o1 + j * 13 + 9, none⟩ = some u9 ∧ wA.cell? ⟨b1, o1 + j * 13 + 10, none⟩ = some u10 ∧ wA.cell? ⟨b1, o1 + j * 13 + 11, none⟩ = some u11 ∧ wA.cell? ⟨b1, o1 + j * 13 + 12, none⟩ = some u12 ∧ wA.cell? ⟨b2, o2 + j * 13, none⟩ = some u13 ∧ wA.cell? ⟨b2, o2 + j * 13 + 1, none⟩ = some u14 ∧ wA.cell? ⟨b2, o2 + j * 13 + 2, none⟩ = some u15 ∧ wA.cell? ⟨b2, o2 + j * 13 + 3, none⟩ = some u16 ∧ wA.cell? ⟨b2, o2 + j * 13 + 4, none⟩ = some u17 ∧ wA.cell? ⟨b2, o2 + j * 13 + 5, none⟩ = some u18 ∧ wA.cell? ⟨b2, o2 + j * 13 + 6, none⟩ = some u19 ∧ wA.cell? ⟨b2, o2 + j * 13 + 7, none⟩ = some u20 ∧ wA.cell? ⟨b2, o2 + j * 13 + 8, none⟩ = some u21 ∧ wA.cell? ⟨b2, o2 + j * 13 + 9, none⟩ = some u22 ∧ wA.cell? ⟨b2, o2 + j * 13 + 10, none⟩ = some u23 ∧ wA.cell? ⟨b2, o2 + j * 13 + 11, none⟩ = some u24 ∧ wA.cell? ⟨b2, o2 + j * 13 + 12, none⟩ = some u25 ∧ Below w1.heap.size w1 wA) (hb : Below wA.heap.size wA wB) :
    wB.cell? ⟨b1, o1 + j * 13, none⟩ = some u0 ∧ wB.cell? ⟨b1, o1 + j * 13 + 1, none⟩ = some u1 ∧ wB.cell? ⟨b1, o1 + j * 13 + 2, none⟩ = some u2 ∧ wB.cell? ⟨b1, o1 + j * 13 + 3, none⟩ = some u3 ∧ wB.cell? ⟨b1, o1 + j * 13 + 4, none⟩ = some u4 ∧ wB.cell? ⟨b1, o1 + j * 13 + 5, none⟩ = some u5 ∧ wB.cell? ⟨b1, o1 + j * 13 + 6, none⟩ = some u6 ∧ wB.cell? ⟨b1, o1 + j * 13 + 7, none⟩ = some u7 ∧ wB.cell? ⟨b1, o1 + j * 13 + 8, none⟩ = some u8 ∧ wB.cell? ⟨b1, o1 + j * 13 + 9, none⟩ = some u9 ∧ wB.cell? ⟨b1, o1 + j * 13 + 10, none⟩ = some u10 ∧ wB.cell? ⟨b1, o1 + j * 13 + 11, none⟩ = some u11 ∧ wB.cell? ⟨b1, o1 + j * 13 + 12, none⟩ = some u12 ∧ wB.cell? ⟨b2, o2 + j * 13, none⟩ = some u13 ∧ wB.cell? ⟨b2, o2 + j * 13 + 1, none⟩ = some u14 ∧ wB.cell? ⟨b2, o2 + j * 13 + 2, none⟩ = some u15 ∧ wB.cell? ⟨b2, o2 + j * 13 + 3, none⟩ = some u16 ∧ wB.cell? ⟨b2, o2 + j * 13 + 4, none⟩ = some u17 ∧ wB.cell? ⟨b2, o2 + j * 13 + 5, none⟩ = some u18 ∧ wB.cell? ⟨b2, o2 + j * 13 + 6, none⟩ = some u19 ∧ wB.cell? ⟨b2, o2 + j * 13 + 7, none⟩ = some u20 ∧ wB.cell? ⟨b2, o2 + j * 13 + 8, none⟩ = some u21 ∧ wB.cell? ⟨b2, o2 + j * 13 + 9, none⟩ = some u22 ∧ wB.cell? ⟨b2, o2 + j * 13 + 10, none⟩ = some u23 ∧ wB.cell? ⟨b2, o2 + j * 13 + 11, none⟩ = some u24 ∧ wB.cell? ⟨b2, o2 + j * 13 + 12, none⟩ = some u25 ∧ Below w1.heap.size w1 wB := by
  obtain ⟨h0, h1, h2, h3, h4, h5, h6, h7, h8, h9, h10, h11, h12, h13, h14, h15, h16, h17, h18, h19, h20, h21, h22, h23, h24, h25, hz⟩ := h
  have hs := hz.size
  exact ⟨(hb.cell (p := ⟨b1, o1 + j * 13, none⟩) (by exact Nat.lt_of_lt_of_le l1 hs)).trans h0, (hb.cell (p := ⟨b1, o1 + j * 13 + 1, none⟩) (by exact Nat.lt_of_lt_of_le l1 hs)).trans h1, (hb.cell (p := ⟨b1, o1 + j * 13 + 2, none⟩) (by exact Nat.lt_of_lt_of_le l1 hs)).trans h2, (hb.cell (p := ⟨b1, o1 + j * 13 + 3, none⟩) (by exact Nat.lt_of_lt_of_le l1 hs)).trans h3, (hb.cell (p := ⟨b1, o1 + j * 13 + 4, none⟩) (by exact Nat.lt_of_lt_of_le l1 hs)).trans h4, (hb.cell (p := ⟨b1, o1 + j * 13 + 5, none⟩) (by exact Nat.lt_of_lt_of_le l1 hs)).trans h5, (hb.cell (p := ⟨b1, o1 + j * 13 + 6, none⟩) (by exact Nat.lt_of_lt_of_le l1 hs)).trans h6, (hb.cell (p := ⟨b1, o1 + j * 13 + 7, none⟩) (by exact Nat.lt_of_lt_of_le l1 hs)).trans h7, (hb.cell (p := ⟨b1, o1 + j * 13 + 8, none⟩) (by exact Nat.lt_of_lt_of_le l1 hs)).trans h8, (hb.cell (p := ⟨b1, o1 + j * 13 + 9, none⟩) (by exact Nat.lt_of_lt_of_le l1 hs)).trans h9, (hb.cell (p := ⟨b1, o1 + j * 13 + 10, none⟩) (by exact Nat.lt_of_lt_of_le l1 hs)).trans h10, (hb.cell (p := ⟨b1, o1 + j * 13 + 11, none⟩) (by exact Nat.lt_of_lt_of_le l1 hs)).trans h11, (hb.cell (p := ⟨b1, o1 + j * 13 + 12, none⟩) (by exact Nat.lt_of_lt_of_le l1 hs)).trans h12, (hb.cell (p := ⟨b2, o2 + j * 13, none⟩) (by exact Nat.lt_of_lt_of_le l2 hs)).trans h13, (hb.cell (p := ⟨b2, o2 + j * 13 + 1, none⟩) (by exact Nat.lt_of_lt_of_le l2 hs)).trans h14, (hb.cell (p := ⟨b2, o2 + j * 13 + 2, none⟩) (by exact Nat.lt_of_lt_of_le l2 hs)).trans h15, (hb.cell (p := ⟨b2, o2 + j * 13 + 3, none⟩) (by exact Nat.lt_of_lt_of_le l2 hs)).trans h16, (hb.cell (p := ⟨b2, o2 + j * 13 + 4, none⟩) (by exact Nat.lt_of_lt_of_le l2 hs)).trans h17, (hb.cell (p := ⟨b2, o2 + j * 13 + 5, none⟩) (by exact Nat.lt_of_lt_of_le l2 hs)).trans h18, (hb.cell (p := ⟨b2, o2 + j * 13 + 6, none⟩) (by exact Nat.lt_of_lt_of_le l2 hs)).trans h19, (hb.cell (p := ⟨b2, o2 + j * 13 + 7, none⟩) (by exact Nat.lt_of_lt_of_le l2 hs)).trans h20, (hb.cell (p := ⟨b2, o2 + j * 13 + 8, none⟩) (by exact Nat.lt_of_lt_of_le l2 hs)).trans h21, (hb.cell (p := ⟨b2, o2 + j * 13 + 9, none⟩) (by exact Nat.lt_of_lt_of_le l2 hs)).trans h22, (hb.cell (p := ⟨b2, o2 + j * 13 + 10, none⟩) (by exact Nat.lt_of_lt_of_le l2 hs)).trans h23, (hb.cell (p := ⟨b2, o2 + j * 13 + 11, none⟩) (by exact Nat.lt_of_lt_of_le l2 hs)).trans h24, (hb.cell (p := ⟨b2, o2 + j * 13 + 12, none⟩) (by exact Nat.lt_of_lt_of_le l2 hs)).trans h25, hz.trans (hb.mono hs)⟩
theorem keepL0 {w1 : World} {b1 o1 b2 o2 j : Nat} {u0 u1 u2 u3 u4 u5 u6 u7 u8 u9 u10 u11 u12 u13 u14 u15 u16 u17 u18 u19 u20 u21 u22 u23 u24 u25 : Value} (h0 : w1.cell? ⟨b1, o1 + j * 13, none⟩ = some u0) (h1 : w1.cell? ⟨b1, o1 + j * 13 + 1, none⟩ = some u1) (h2 : w1.cell? ⟨b1, o1 + j * 13 + 2, none⟩ = some u2) (h3 : w1.cell? ⟨b1, o1 + j * 13 + 3, none⟩ = some u3) (h4 : w1.cell? ⟨b1, o1 + j * 13 + 4, none⟩ = some u4) (h5 : w1.cell? ⟨b1, o1 + j * 13 + 5, none⟩ = some u5) (h6 : w1.cell? ⟨b1, o1 + j * 13 + 6, none⟩ = some u6) (h7 : w1.cell? ⟨b1, o1 + j * 13 + 7, none⟩ = some u7) (h8 : w1.cell? ⟨b1, o1 + j * 13 + 8, none⟩ = some u8) (h9 : w1.cell? ⟨b1, o1 + j * 13 + 9, none⟩ = some u9) (h10 : w1.cell? ⟨b1, o1 + j * 13 + 10, none⟩ = some u10) (h11 : w1.cell? ⟨b1, o1 + j * 13 + 11, none⟩ = some u11) (h12 : w1.cell? ⟨b1, o1 + j * 13 + 12, none⟩ = some u12) (h13 : w1.cell? ⟨b2, o2 + j * 13, none⟩ = some u13) (h14 : w1.cell? ⟨b2, o2 + j * 13 + 1, none⟩ = some u14) (h15 : w1.cell? ⟨b2, o2 + j * 13 + 2, none⟩ = some u15) (h16 : w1.cell? ⟨b2, o2 + j * 13 + 3, none⟩ = some u16) (h17 : w1.cell? ⟨b2, o2 + j * 13 + 4, none⟩ = some u17) (h18 : w1.cell? ⟨b2, o2 + j * 13 + 5, none⟩ = some u18) (h19 : w1.cell? ⟨b2, o2 + j * 13 + 6, none⟩ = some u19) (h20 : w1.cell? ⟨b2, o2 + j * 13 + 7, none⟩ = some u20) (h21 : w1.cell? ⟨b2, o2 + j * 13 + 8, none⟩ = some u21) (h22 : w1.cell? ⟨b2, o2 + j * 13 + 9, none⟩ = some u22) (h23 : w1.cell? ⟨b2, o2 + j * 13 + 10, none⟩ = some u23) (h24 : w1.cell? ⟨b2, o2 + j * 13 + 11, none⟩ = some u24) (h25 : w1.cell? ⟨b2, o2 + j * 13 + 12, none⟩ = some u25) : w1.drew.cell? ⟨b1, o1 + j * 13, none⟩ = some u0 ∧ w1.drew.cell? ⟨b1, o1 + j * 13 + 1, none⟩ = some u1 ∧ w1.drew.cell? ⟨b1, o1 + j * 13 + 2, none⟩ = some u2 ∧ w1.drew.cell? ⟨b1, o1 + j * 13 + 3, none⟩ = some u3 ∧ w1.drew.cell? ⟨b1, o1 + j * 13 + 4, none⟩ = some u4 ∧ w1.drew.cell? ⟨b1, o1 + j * 13 + 5, none⟩ = some u5 ∧ w1.drew.cell? ⟨b1, o1 + j * 13 + 6, none⟩ = some u6 ∧ w1.drew.cell? ⟨b1, o1 + j * 13 + 7, none⟩ = some u7 ∧ w1.drew.cell? ⟨b1, o1 + j * 13 + 8, none⟩ = some u8 ∧ w1.drew.cell? ⟨b1, o1 + j * 13 + 9, none⟩ = some u9 ∧ w1.drew.cell? ⟨b1, o1 + j * 13 + 10, none⟩ = some u10 ∧ w1.drew.cell? ⟨b1, o1 + j * 13 + 11, none⟩ = some u11 ∧ w1.drew.cell? ⟨b1, o1 + j * 13 + 12, none⟩ = some u12 ∧ w1.drew.cell? ⟨b2, o2 + j * 13, none⟩ = some u13 ∧ w1.drew.cell? ⟨b2, o2 + j * 13 + 1, none⟩ = some u14 ∧ w1.drew.cell? ⟨b2, o2 + j * 13 + 2, none⟩ = some u15 ∧ w1.drew.cell? ⟨b2, o2 + j * 13 + 3, none⟩ = some u16 ∧ w1.drew.cell? ⟨b2, o2 + j * 13 + 4, none⟩ = some u17 ∧ w1.drew.cell? ⟨b2, o2 + j * 13 + 5, none⟩ = some u18 ∧ w1.drew.cell? ⟨b2, o2 + j * 13 + 6, none⟩ = some u19 ∧ w1.drew.cell? ⟨b2, o2 + j * 13 + 7, none⟩ = some u20 ∧ w1.drew.cell? ⟨b2, o2 + j * 13 + 8, none⟩ = some u21 ∧ w1.drew.cell? ⟨b2, o2 + j * 13 + 9, none⟩ = some u22 ∧ w1.drew.cell? ⟨b2, o2 + j * 13 + 10, none⟩ = some u23 ∧ w1.drew.cell? ⟨b2, o2 + j * 13 + 11, none⟩ = some u24 ∧ w1.drew.cell? ⟨b2, o2 + j * 13 + 12, none⟩ = some u25 ∧ Below w1.heap.size w1 w1.drew :=
  ⟨h0, h1, h2, h3, h4, h5, h6, h7, h8, h9, h10, h11, h12, h13, h14, h15, h16, h17, h18, h19, h20, h21, h22, h23, h24, h25, ⟨rfl, rfl, rfl, Nat.le_refl _, fun _ _ => rfl⟩⟩
theorem keepLB {w1 wA : World} {b1 o1 b2 o2 j : Nat} {u0 u1 u2 u3 u4 u5 u6 u7 u8 u9 u10 u11 u12 u13 u14 u15 u16 u17 u18 u19 u20 u21 u22 u23 u24 u25 : Value} (h : wA.cell? ⟨b1, o1 + j * 13, none⟩ = some u0 ∧ wA.cell? ⟨b1, o1 + j * 13 + 1, none⟩ = some u1 ∧ wA.cell? ⟨b1, o1 + j * 13 + 2, none⟩ = some u2 ∧ wA.cell? ⟨b1, o1 + j * 13 + 3, none⟩ = some u3 ∧ wA.cell? ⟨b1, o1 + j * 13 + 4, none⟩ = some u4 ∧ wA.cell? ⟨b1, o1 + j * 13 + 5, none⟩ = some u5 ∧ wA.cell? ⟨b1, o1 + j * 13 + 6, none⟩ = some u6 ∧ wA.cell? ⟨b1, o1 + j * 13 + 7, none⟩ = some u7 ∧ wA.cell? ⟨b1, o1 + j * 13 + 8, none⟩ = some u8 ∧ wA.cell? ⟨b1, o1 + j * 13 + 9, none⟩ = some u9 ∧ wA.cell? ⟨b1, o1 + j * 13 + 10, none⟩ = some u10 ∧ wA.cell? ⟨b1, o1 + j * 13 + 11, none⟩ = some u11 ∧ wA.cell? ⟨b1, o1 + j * 13 + 12, none⟩ = some u12 ∧ wA.cell? ⟨b2, o2 + j * 13, none⟩ = some u13 ∧ wA.cell? ⟨b2, o2 + j * 13 + 1, none⟩ = some u14 ∧ wA.cell? ⟨b2, o2 + j * 13 + 2, none⟩ = some u15 ∧ wA.cell? ⟨b2, o2 + j * 13 + 3, none⟩ = some u16 ∧ wA.cell? ⟨b2, o2 + j * 13 + 4, none⟩ = some u17 ∧ wA.cell? ⟨b2, o2 + j * 13 + 5, none⟩ = some u18 ∧ wA.cell? ⟨b2, o2 + j * 13 + 6, none⟩ = some u19 ∧ wA.cell? ⟨b2, o2 + j * 13 + 7, none⟩ = some u20 ∧ wA.cell? ⟨b2, o2 + j * 13 + 8, none⟩ = some u21 ∧ wA.cell? ⟨b2, o2 + j * 13 + 9, none⟩ = some u22 ∧ wA.cell? ⟨b2, o2 + j * 13 + 10, none⟩ = some u23 ∧ wA.cell? ⟨b2, o2 + j * 13 + 11, none⟩ = some u24 ∧ wA.cell? ⟨b2, o2 + j * 13 + 12, none⟩ = some u25 ∧ Below w1.heap.size w1 wA) : Below w1.heap.size w1 wA := h.2.2.2.2.2.2.2.2.2.2.2.2.2.2.2.2.2.2.2.2.2.2.2.2.2.2

set_option maxRecDepth 100000 in
set_option maxHeartbeats 4000000 in
theorem like_eq (p q : Option Addr) (n c m d : Nat) (es fs : List EntV) (w : World) (hx : HasE w ⟨p, n, c⟩ es) (hy : HasE w ⟨q, m, d⟩ fs) (he : es.map EntV.e = fs.map EntV.e) (hlen : (n : Int) ≤ 9223372036854775807) :
    Calls Tryz.prog 62 #[.slice p n c, .slice q m d] w fun e w' => e = .returned (.bool true) ∧ Below w.heap.size w w' := by
  have hn : n = m := by
    have h1 : es.length = n := hx.n
    have h2 : fs.length = m := hy.n
    have := congrArg List.length he
    rw [List.length_map, List.length_map] at this
    omega
  subst hn
  have HX : Hid (∀ W, Below w.heap.size w W → HasE W ⟨p, n, c⟩ es) := fun W h => hx.below h
  have HY : Hid (∀ W, Below w.heap.size w W → HasE W ⟨q, n, d⟩ fs) := fun W h => hy.below h
  have HS : Hid (∀ j, sameE10 (es.getD j noEV).e (fs.getD j noEV).e = true) := fun j => by rw [← mapE_getD, ← mapE_getD, he, sameE10_iff]
  clear hx hy he
  go_enter Tryz.func62, Tryz.ntmps62
  go_wp2
  go_loopw [13] (fun s13 wr => ∃ j : Nat, j ≤ n ∧ s13 = .int .i64 (j : Nat) ∧ Below w.heap.size w wr) (fun s13 _ => n - (intOf s13).toNat)
  case atStart => exact ⟨0, Nat.zero_le _, rfl, Below.refl _ _⟩
  case round =>
    obtain ⟨j, hj, rfl, hb⟩ := hrel
    by_cases hlt : j < n
    · obtain ⟨b1, o1, x, hp, hl1, Hx, -, fx, g0, g1, g2, g3, g4, g5, g6, g7, g8, g9, g10, g11, g12⟩ := (HX.out wr hb).at (j := j) hlt
      obtain ⟨b2, o2, y, hq, hl2, Hy, -, fy, k0, k1, k2, k3, k4, k5, k6, k7, k8, k9, k10, k11, k12⟩ := (HY.out wr hb).at (j := j) hlt
      dsimp only at hp hq
      subst hp
      subst hq
      have HE : Hid (sameE10 x.e y.e = true) := by rw [Hid, Hx, Hy]; exact HS.out j
      have KS : Hid (∀ W, Below wr.heap.size wr W → Calls Tryz.prog 12 #[.agg x.arr, .agg y.arr] W fun e w' => e = .returned (.bool true) ∧ Below W.heap.size W w') := fun W h => by
        have := rsameE_any x y W (fx.f.below h) (fy.f.below h)
        rwa [HE.out] at this
      clear fx fy Hx Hy HE
      obtain ⟨xi, xt, xk, ⟨ck, cs, cq, ckey, cold, cval, cunt, clim⟩, ⟨⟨p1, n1, c1⟩, ⟨q1, m1, d1⟩, f1⟩⟩ := x
      obtain ⟨yi, yt, yk, ⟨dk, ds, dq, dkey, dold, dval, dunt, dlim⟩, ⟨⟨p2, n2, c2⟩, ⟨q2, m2, d2⟩, f2⟩⟩ := y
      unfold EntV.arr at *
      dsimp only at *
      go_wp2_with fail
      have s0 := keepL0 g0 g1 g2 g3 g4 g5 g6 g7 g8 g9 g10 g11 g12 k0 k1 k2 k3 k4 k5 k6 k7 k8 k9 k10 k11 k12
      go_region_held3 (fun w' => w'.cell? ⟨b1, o1 + j * 13, none⟩ = some (.int .i64 xi) ∧ w'.cell? ⟨b1, o1 + j * 13 + 1, none⟩ = some (.int .i64 xt) ∧ w'.cell? ⟨b1, o1 + j * 13 + 2, none⟩ = some (.int .i64 xk) ∧ w'.cell? ⟨b1, o1 + j * 13 + 3, none⟩ = some (.int .i64 ck) ∧ w'.cell? ⟨b1, o1 + j * 13 + 4, none⟩ = some (.int .i64 cs) ∧ w'.cell? ⟨b1, o1 + j * 13 + 5, none⟩ = some (.int .i64 cq) ∧ w'.cell? ⟨b1, o1 + j * 13 + 6, none⟩ = some (.string ckey) ∧ w'.cell? ⟨b1, o1 + j * 13 + 7, none⟩ = some (.string cold) ∧ w'.cell? ⟨b1, o1 + j * 13 + 8, none⟩ = some (.string cval) ∧ w'.cell? ⟨b1, o1 + j * 13 + 9, none⟩ = some (.string cunt) ∧ w'.cell? ⟨b1, o1 + j * 13 + 10, none⟩ = some (.int .i64 clim) ∧ w'.cell? ⟨b1, o1 + j * 13 + 11, none⟩ = some (.slice p1 n1 c1) ∧ w'.cell? ⟨b1, o1 + j * 13 + 12, none⟩ = some (.slice q1 m1 d1) ∧ w'.cell? ⟨b2, o2 + j * 13, none⟩ = some (.int .i64 yi) ∧ w'.cell? ⟨b2, o2 + j * 13 + 1, none⟩ = some (.int .i64 yt) ∧ w'.cell? ⟨b2, o2 + j * 13 + 2, none⟩ = some (.int .i64 yk) ∧ w'.cell? ⟨b2, o2 + j * 13 + 3, none⟩ = some (.int .i64 dk) ∧ w'.cell? ⟨b2, o2 + j * 13 + 4, none⟩ = some (.int .i64 ds) ∧ w'.cell? ⟨b2, o2 + j * 13 + 5, none⟩ = some (.int .i64 dq) ∧ w'.cell? ⟨b2, o2 + j * 13 + 6, none⟩ = some (.string dkey) ∧ w'.cell? ⟨b2, o2 + j * 13 + 7, none⟩ = some (.string dold) ∧ w'.cell? ⟨b2, o2 + j * 13 + 8, none⟩ = some (.string dval) ∧ w'.cell? ⟨b2, o2 + j * 13 + 9, none⟩ = some (.string dunt) ∧ w'.cell? ⟨b2, o2 + j * 13 + 10, none⟩ = some (.int .i64 dlim) ∧ w'.cell? ⟨b2, o2 + j * 13 + 11, none⟩ = some (.slice p2 n2 c2) ∧ w'.cell? ⟨b2, o2 + j * 13 + 12, none⟩ = some (.slice q2 m2 d2) ∧ Below wr.heap.size wr w')
        (first | exact s0 | assumption | exact keepL hl1 hl2 (by assumption) (by assumption))
        (first
          | (go_at_call 12; refine Calls.mono (KS.out _ (keepLB (by assumption))) ?_; rintro e w2 ⟨rfl, hb2⟩))
      all_goals
        have hW : Below wr.heap.size wr w2 := keepLB (by assumption)
        have hB2 := hb.trans (hW.mono hb.size)
        go_wp2
        go_roundw
        case rel => exact ⟨j + 1, by omega, by go_num, hB2⟩
        case measure => simp only [intOf]; omega
    · go_wp2
      go_ret
      exact ⟨rfl, hb⟩

set_option maxRecDepth 100000 in
set_option maxHeartbeats 4000000 in
theorem sameMsg_eq (x y : MsgV) (w : World) (hx : FitsM w x) (hy : FitsM w y) (he : x.m = y.m) : Calls Tryz.prog 22 #[.agg x.arr, .agg y.arr] w fun e w' => e = .returned (.bool true) ∧ Below w.heap.size w w' := by
  have hb1 : Below w.heap.size w (w.alloc (.cells x.arr 53)) := (Below.refl _ _).alloc (Nat.le_refl _) _
  have hz1 : (w.alloc (.cells x.arr 53)).heap.size = w.heap.size + 1 := by simp
  have hb2 := (Below.refl _ (w.alloc (.cells x.arr 53))).alloc (Nat.le_refl _) (.cells y.arr 53)
  have hbx : MsgAt (w.alloc (.cells x.arr 53)) w.heap.size x := heap_alloc_new w _
  have hby : MsgAt ((w.alloc (.cells x.arr 53)).alloc (.cells y.arr 53)) (w.heap.size + 1) y := by rw [← hz1]; exact heap_alloc_new _ _
  have hbx2 : MsgAt _ w.heap.size x := box_below hbx hb2
  have hB := hb1.trans (hb2.mono hb1.size)
  have hbz := hB.size
  have e1 : x.es.map EntV.e = y.es.map EntV.e := congrArg Msg10.es he
  have e2 : x.sn.s = y.sn.s := congrArg Msg10.sn he
  have kl := like_eq x.w.p y.w.p x.w.n x.w.c y.w.n y.w.c x.es y.es _ (hx.es.below hB) (hy.es.below hB) e1 hx.len
  have ks : Hid (∀ W, Below w.heap.size w W → Calls Tryz.prog 13 #[.agg x.sn.arr, .agg y.sn.arr] W fun e w' => e = .returned (.bool true) ∧ Below W.heap.size W w') := fun W h => by
    have := rsameSnap_any x.sn y.sn W (hx.sn.below h) (hy.sn.below h)
    rwa [(sameS10_iff _ _).2 e2] at this
  clear hx hy hb1 hb2 hbx hz1 e1 e2
  obtain ⟨k, fr, too, t, i, lt, cm, ro, rej, hint, ⟨a, b, e⟩, es, ⟨si, st, ⟨⟨p, n, c⟩, ⟨q, m, d⟩, f⟩, ⟨a', b', e'⟩, dd⟩⟩ := x
  obtain ⟨k', fr', too', t', i', lt', cm', ro', rej', hint', ⟨a2, b2, e2⟩, es2, ⟨si', st', ⟨⟨p', n', c'⟩, ⟨q', m', d'⟩, f'⟩, ⟨a3, b3, e3⟩, dd'⟩⟩ := y
  unfold MsgV.m at he
  simp only [Msg10.mk.injEq] at he
  obtain ⟨rfl, rfl, rfl, rfl, rfl, rfl, rfl, rfl, rfl, rfl, -, -⟩ := he
  unfold MsgV.arr at *
  unfold SnapV.arr at *
  dsimp only at *
  go_enter Tryz.func22, Tryz.ntmps22
  go_wp2_with fail
  refine kl.mono ?_
  rintro _ w3 ⟨rfl, hb3⟩
  have hb9 := hB.trans (hb3.mono hbz)
  have m1 : MsgAt w3 w.heap.size ⟨k, fr, too, t, i, lt, cm, ro, rej, hint, ⟨a, b, e⟩, es, ⟨si, st, ⟨⟨p, n, c⟩, ⟨q, m, d⟩, f⟩, ⟨a', b', e'⟩, dd⟩⟩ := box_below hbx2 hb3
  have m2 : MsgAt w3 (w.heap.size + 1) ⟨k, fr, too, t, i, lt, cm, ro, rej, hint, ⟨a2, b2, e2⟩, es2, ⟨si', st', ⟨⟨p', n', c'⟩, ⟨q', m', d'⟩, f'⟩, ⟨a3, b3, e3⟩, dd'⟩⟩ := box_below hby hb3
  have k4 := ks.out w3 hb9
  have c11 := box_cell m1 11
  have d11 := box_cell m2 11
  have c12 := box_cell m1 12
  have d12 := box_cell m2 12
  have c13 := box_cell m1 13
  have d13 := box_cell m2 13
  have c14 := box_cell m1 14
  have d14 := box_cell m2 14
  have c15 := box_cell m1 15
  have d15 := box_cell m2 15
  dsimp only [MsgV.arr] at c11 d11 c12 d12 c13 d13 c14 d14 c15 d15
  have hl1 := box_lt m1
  have hl2 := box_lt m2
  clear kl hbx2 hby
  go_wp2_with fail
  refine k4.mono ?_
  rintro _ w5 ⟨rfl, hb5⟩
  have hbA := hb9.trans (hb5.mono hb9.size)
  go_wp2
  go_ret
  exact ⟨rfl, hbA⟩
end Go.Proofs.YtnbaoimjcaeeaaaGreat
