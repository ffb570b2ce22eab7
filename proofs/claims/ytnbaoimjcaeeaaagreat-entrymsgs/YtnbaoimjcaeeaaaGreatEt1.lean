/-
  Contracts: corbelref10.ReadMsg, of the other kinds.
-/
import Derived.Test.YtnbaoimjcaeeaaaGreatEq8
namespace Go.Proofs.YtnbaoimjcaeeaaaGreat
open Go.RowKit Go.Shelf

set_option maxRecDepth 100000 in
set_option maxHeartbeats 8000000 in
theorem rreadM_else (v : Value) (xs : List Int) (w : World) (hv : Has w v xs) (hB : IsB xs) (hl : xs.length ≤ 1073741824) (hk : (int9 (xs, false)).1 ≠ 5 ∧ (int9 (xs, false)).1 ≠ 7) :
    Calls Tryz.prog 16 #[v] w fun e w' => ∃ X : MsgV, e = .returned (.tuple #[.agg X.arr, .int .i64 (whole10 goodM10 noM10 (pmsg10 (xs, false))).2]) ∧ X.m = (whole10 goodM10 noM10 (pmsg10 (xs, false))).1 ∧ FitsM w' X ∧ Below w.heap.size w w' := by
  have hb1 : Below w.heap.size w (w.alloc (.cells #[.int .i64 0, .int .i64 0, .int .i64 0, .int .i64 0, .int .i64 0, .int .i64 0, .int .i64 0, .int .i64 0, .bool false, .int .i64 0, .slice none 0 0, .int .i64 0, .int .i64 0, .slice none 0 0, .slice none 0 0, .slice none 0 0] 53)) := (Below.refl _ _).alloc (Nat.le_refl _) _
  have hbox : MsgAt (w.alloc (.cells #[.int .i64 0, .int .i64 0, .int .i64 0, .int .i64 0, .int .i64 0, .int .i64 0, .int .i64 0, .int .i64 0, .bool false, .int .i64 0, .slice none 0 0, .int .i64 0, .int .i64 0, .slice none 0 0, .slice none 0 0, .slice none 0 0] 53)) w.heap.size noMV := heap_alloc_new w _
  have hz1 : (w.alloc (.cells #[.int .i64 0, .int .i64 0, .int .i64 0, .int .i64 0, .int .i64 0, .int .i64 0, .int .i64 0, .int .i64 0, .bool false, .int .i64 0, .slice none 0 0, .int .i64 0, .int .i64 0, .slice none 0 0, .slice none 0 0, .slice none 0 0] 53)).heap.size = w.heap.size + 1 := by simp
  have hR := Rdr.make hb1 hv hB hl 72
  have hsl : ∃ p n c, v = .slice p n c := by
    obtain ⟨p, c, hp, -⟩ := hv
    exact ⟨p, _, c, hp⟩
  have hb2 : Below (w.alloc (.cells #[.int .i64 0, .int .i64 0, .int .i64 0, .int .i64 0, .int .i64 0, .int .i64 0, .int .i64 0, .int .i64 0, .bool false, .int .i64 0, .slice none 0 0, .int .i64 0, .int .i64 0, .slice none 0 0, .slice none 0 0, .slice none 0 0] 53)).heap.size (w.alloc (.cells #[.int .i64 0, .int .i64 0, .int .i64 0, .int .i64 0, .int .i64 0, .int .i64 0, .int .i64 0, .int .i64 0, .bool false, .int .i64 0, .slice none 0 0, .int .i64 0, .int .i64 0, .slice none 0 0, .slice none 0 0, .slice none 0 0] 53)) ((w.alloc (.cells #[.int .i64 0, .int .i64 0, .int .i64 0, .int .i64 0, .int .i64 0, .int .i64 0, .int .i64 0, .int .i64 0, .bool false, .int .i64 0, .slice none 0 0, .int .i64 0, .int .i64 0, .slice none 0 0, .slice none 0 0, .slice none 0 0] 53)).alloc (.cells #[v, .bool false] 72)) := (Below.refl _ _).alloc (Nat.le_refl _) _
  have hb3 := (Below.refl _ ((w.alloc (.cells #[.int .i64 0, .int .i64 0, .int .i64 0, .int .i64 0, .int .i64 0, .int .i64 0, .int .i64 0, .int .i64 0, .bool false, .int .i64 0, .slice none 0 0, .int .i64 0, .int .i64 0, .slice none 0 0, .slice none 0 0, .slice none 0 0] 53)).alloc (.cells #[v, .bool false] 72))).alloc (Nat.le_refl _) (.cells #[.int .i64 0, .int .i64 0, .int .i64 0, .int .i64 0, .int .i64 0, .int .i64 0, .int .i64 0, .int .i64 0, .bool false, .int .i64 0, .slice none 0 0, .int .i64 0, .int .i64 0, .slice none 0 0, .slice none 0 0, .slice none 0 0] 53)
  have hz2 : ((w.alloc (.cells #[.int .i64 0, .int .i64 0, .int .i64 0, .int .i64 0, .int .i64 0, .int .i64 0, .int .i64 0, .int .i64 0, .bool false, .int .i64 0, .slice none 0 0, .int .i64 0, .int .i64 0, .slice none 0 0, .slice none 0 0, .slice none 0 0] 53)).alloc (.cells #[v, .bool false] 72)).heap.size = w.heap.size + 2 := by simp
  have hn := heap_alloc_new ((w.alloc (.cells #[.int .i64 0, .int .i64 0, .int .i64 0, .int .i64 0, .int .i64 0, .int .i64 0, .int .i64 0, .int .i64 0, .bool false, .int .i64 0, .slice none 0 0, .int .i64 0, .int .i64 0, .slice none 0 0, .slice none 0 0, .slice none 0 0] 53)).alloc (.cells #[v, .bool false] 72)) (.cells #[.int .i64 0, .int .i64 0, .int .i64 0, .int .i64 0, .int .i64 0, .int .i64 0, .int .i64 0, .int .i64 0, .bool false, .int .i64 0, .slice none 0 0, .int .i64 0, .int .i64 0, .slice none 0 0, .slice none 0 0, .slice none 0 0] 53)
  rw [hz2] at hn
  rw [hz1] at hR
  have h0 : RdM w _ (xs, false) #[.int .i64 0, .int .i64 0, .int .i64 0, .int .i64 0, .int .i64 0, .int .i64 0, .int .i64 0, .int .i64 0, .bool false, .int .i64 0, .slice none 0 0, .int .i64 0, .int .i64 0, .slice none 0 0, .slice none 0 0, .slice none 0 0] #[.int .i64 0, .int .i64 0, .int .i64 0, .int .i64 0, .int .i64 0, .int .i64 0, .int .i64 0, .int .i64 0, .bool false, .int .i64 0, .slice none 0 0, .int .i64 0, .int .i64 0, .slice none 0 0, .slice none 0 0, .slice none 0 0] := ⟨hR.more hb3, hn, box_below (box_below hbox hb2) hb3⟩
  have HD : Hid (∀ x S', Tell10 (msg10 1000000 (xs, false)) x S' → whole10 goodM10 noM10 (pmsg10 (xs, false)) = if (S'.1.isEmpty && !S'.2) && goodM10 x then (x, 0) else (noM10, 8)) := fun x S' ht => by
    rw [(msg10_sim 1000000 (by decide)).whole noM10 (xs, false), ← ht.whole]
    rfl
  have HK : Hid ((int9 (xs, false)).1 ≠ 5 ∧ (int9 (xs, false)).1 ≠ 7) := hk
  generalize whole10 goodM10 noM10 (pmsg10 (xs, false)) = R at *
  obtain ⟨p0, n0, c0_, rfl⟩ := hsl
  clear hR hv hB hbox hb2 hb1 hz1 hb3 hn hz2 hl hk
  generalize ((xs, false) : St) = S0 at *
  go_enter Tryz.func16, Tryz.ntmps16
  have ki0 := h0.r.rint
  have HI0 : Hid (inI (int9 S0).1) := int9_in _
  go_wp2_with fail
  refine ki0.mono ?_
  rintro _ y0 ⟨rfl, hl0⟩
  have g0 := h0.left hl0
  clear h0 ki0 hl0
  generalize hA : int9 S0 = A at *
  obtain ⟨z0, S1⟩ := A
  have E0 : Hid (int9 S0 = (z0, S1)) := hA
  clear hA
  dsimp only at g0 HI0 HK
  have c0 := box_cell g0.box 0
  have fb := frozen9 g0.box
  have hlb := box_lt g0.box
  go_upto_region 4 with fail
  have h1 : RdM w _ S1 #[.int .i64 z0, .int .i64 0, .int .i64 0, .int .i64 0, .int .i64 0, .int .i64 0, .int .i64 0, .int .i64 0, .bool false, .int .i64 0, .slice none 0 0, .int .i64 0, .int .i64 0, .slice none 0 0, .slice none 0 0, .slice none 0 0] #[.int .i64 0, .int .i64 0, .int .i64 0, .int .i64 0, .int .i64 0, .int .i64 0, .int .i64 0, .int .i64 0, .bool false, .int .i64 0, .slice none 0 0, .int .i64 0, .int .i64 0, .slice none 0 0, .slice none 0 0, .slice none 0 0] := g0.put 0 (.int .i64 z0) (by show 0 < 16; omega)
  clear g0 c0 fb hlb
  generalize y0.setCell ⟨w.heap.size + 2, 0, none⟩ (.int .i64 z0) = X0 at *
  have ki1 := h1.r.rint
  have HI1 : Hid (inI (int9 S1).1) := int9_in _
  go_wp2_with fail
  refine ki1.mono ?_
  rintro _ y1 ⟨rfl, hl1⟩
  have g1 := h1.left hl1
  clear h1 ki1 hl1
  generalize hA : int9 S1 = A at *
  obtain ⟨z1, S2⟩ := A
  have E1 : Hid (int9 S1 = (z1, S2)) := hA
  clear hA
  dsimp only at g1 HI1
  have c1 := box_cell g1.box 1
  have fb := frozen9 g1.box
  have hlb := box_lt g1.box
  go_upto_region 5 with fail
  have h2 : RdM w _ S2 #[.int .i64 z0, .int .i64 z1, .int .i64 0, .int .i64 0, .int .i64 0, .int .i64 0, .int .i64 0, .int .i64 0, .bool false, .int .i64 0, .slice none 0 0, .int .i64 0, .int .i64 0, .slice none 0 0, .slice none 0 0, .slice none 0 0] #[.int .i64 0, .int .i64 0, .int .i64 0, .int .i64 0, .int .i64 0, .int .i64 0, .int .i64 0, .int .i64 0, .bool false, .int .i64 0, .slice none 0 0, .int .i64 0, .int .i64 0, .slice none 0 0, .slice none 0 0, .slice none 0 0] := g1.put 1 (.int .i64 z1) (by show 1 < 16; omega)
  clear g1 c1 fb hlb
  generalize y1.setCell ⟨w.heap.size + 2, 1, none⟩ (.int .i64 z1) = X1 at *
  have ki2 := h2.r.rint
  have HI2 : Hid (inI (int9 S2).1) := int9_in _
  go_wp2_with fail
  refine ki2.mono ?_
  rintro _ y2 ⟨rfl, hl2⟩
  have g2 := h2.left hl2
  clear h2 ki2 hl2
  generalize hA : int9 S2 = A at *
  obtain ⟨z2, S3⟩ := A
  have E2 : Hid (int9 S2 = (z2, S3)) := hA
  clear hA
  dsimp only at g2 HI2
  have c2 := box_cell g2.box 2
  have fb := frozen9 g2.box
  have hlb := box_lt g2.box
  go_upto_region 6 with fail
  have h3 : RdM w _ S3 #[.int .i64 z0, .int .i64 z1, .int .i64 z2, .int .i64 0, .int .i64 0, .int .i64 0, .int .i64 0, .int .i64 0, .bool false, .int .i64 0, .slice none 0 0, .int .i64 0, .int .i64 0, .slice none 0 0, .slice none 0 0, .slice none 0 0] #[.int .i64 0, .int .i64 0, .int .i64 0, .int .i64 0, .int .i64 0, .int .i64 0, .int .i64 0, .int .i64 0, .bool false, .int .i64 0, .slice none 0 0, .int .i64 0, .int .i64 0, .slice none 0 0, .slice none 0 0, .slice none 0 0] := g2.put 2 (.int .i64 z2) (by show 2 < 16; omega)
  clear g2 c2 fb hlb
  generalize y2.setCell ⟨w.heap.size + 2, 2, none⟩ (.int .i64 z2) = X2 at *
  have ki3 := h3.r.rint
  have HI3 : Hid (inI (int9 S3).1) := int9_in _
  go_wp2_with fail
  refine ki3.mono ?_
  rintro _ y3 ⟨rfl, hl3⟩
  have g3 := h3.left hl3
  clear h3 ki3 hl3
  generalize hA : int9 S3 = A at *
  obtain ⟨z3, S4⟩ := A
  have E3 : Hid (int9 S3 = (z3, S4)) := hA
  clear hA
  dsimp only at g3 HI3
  have c3 := box_cell g3.box 3
  have fb := frozen9 g3.box
  have hlb := box_lt g3.box
  go_upto_region 7 with fail
  have h4 : RdM w _ S4 #[.int .i64 z0, .int .i64 z1, .int .i64 z2, .int .i64 z3, .int .i64 0, .int .i64 0, .int .i64 0, .int .i64 0, .bool false, .int .i64 0, .slice none 0 0, .int .i64 0, .int .i64 0, .slice none 0 0, .slice none 0 0, .slice none 0 0] #[.int .i64 0, .int .i64 0, .int .i64 0, .int .i64 0, .int .i64 0, .int .i64 0, .int .i64 0, .int .i64 0, .bool false, .int .i64 0, .slice none 0 0, .int .i64 0, .int .i64 0, .slice none 0 0, .slice none 0 0, .slice none 0 0] := g3.put 3 (.int .i64 z3) (by show 3 < 16; omega)
  clear g3 c3 fb hlb
  generalize y3.setCell ⟨w.heap.size + 2, 3, none⟩ (.int .i64 z3) = X3 at *
  have ki4 := h4.r.rint
  have HI4 : Hid (inI (int9 S4).1) := int9_in _
  go_wp2_with fail
  refine ki4.mono ?_
  rintro _ y4 ⟨rfl, hl4⟩
  have g4 := h4.left hl4
  clear h4 ki4 hl4
  generalize hA : int9 S4 = A at *
  obtain ⟨z4, S5⟩ := A
  have E4 : Hid (int9 S4 = (z4, S5)) := hA
  clear hA
  dsimp only at g4 HI4
  have c4 := box_cell g4.box 4
  have fb := frozen9 g4.box
  have hlb := box_lt g4.box
  go_upto_region 8 with fail
  have h5 : RdM w _ S5 #[.int .i64 z0, .int .i64 z1, .int .i64 z2, .int .i64 z3, .int .i64 z4, .int .i64 0, .int .i64 0, .int .i64 0, .bool false, .int .i64 0, .slice none 0 0, .int .i64 0, .int .i64 0, .slice none 0 0, .slice none 0 0, .slice none 0 0] #[.int .i64 0, .int .i64 0, .int .i64 0, .int .i64 0, .int .i64 0, .int .i64 0, .int .i64 0, .int .i64 0, .bool false, .int .i64 0, .slice none 0 0, .int .i64 0, .int .i64 0, .slice none 0 0, .slice none 0 0, .slice none 0 0] := g4.put 4 (.int .i64 z4) (by show 4 < 16; omega)
  clear g4 c4 fb hlb
  generalize y4.setCell ⟨w.heap.size + 2, 4, none⟩ (.int .i64 z4) = X4 at *
  have ki5 := h5.r.rint
  have HI5 : Hid (inI (int9 S5).1) := int9_in _
  go_wp2_with fail
  refine ki5.mono ?_
  rintro _ y5 ⟨rfl, hl5⟩
  have g5 := h5.left hl5
  clear h5 ki5 hl5
  generalize hA : int9 S5 = A at *
  obtain ⟨z5, S6⟩ := A
  have E5 : Hid (int9 S5 = (z5, S6)) := hA
  clear hA
  dsimp only at g5 HI5
  have c5 := box_cell g5.box 5
  have fb := frozen9 g5.box
  have hlb := box_lt g5.box
  go_upto_region 9 with fail
  have h6 : RdM w _ S6 #[.int .i64 z0, .int .i64 z1, .int .i64 z2, .int .i64 z3, .int .i64 z4, .int .i64 z5, .int .i64 0, .int .i64 0, .bool false, .int .i64 0, .slice none 0 0, .int .i64 0, .int .i64 0, .slice none 0 0, .slice none 0 0, .slice none 0 0] #[.int .i64 0, .int .i64 0, .int .i64 0, .int .i64 0, .int .i64 0, .int .i64 0, .int .i64 0, .int .i64 0, .bool false, .int .i64 0, .slice none 0 0, .int .i64 0, .int .i64 0, .slice none 0 0, .slice none 0 0, .slice none 0 0] := g5.put 5 (.int .i64 z5) (by show 5 < 16; omega)
  clear g5 c5 fb hlb
  generalize y5.setCell ⟨w.heap.size + 2, 5, none⟩ (.int .i64 z5) = X5 at *
  have ki6 := h6.r.rint
  have HI6 : Hid (inI (int9 S6).1) := int9_in _
  go_wp2_with fail
  refine ki6.mono ?_
  rintro _ y6 ⟨rfl, hl6⟩
  have g6 := h6.left hl6
  clear h6 ki6 hl6
  generalize hA : int9 S6 = A at *
  obtain ⟨z6, S7⟩ := A
  have E6 : Hid (int9 S6 = (z6, S7)) := hA
  clear hA
  dsimp only at g6 HI6
  have c6 := box_cell g6.box 6
  have fb := frozen9 g6.box
  have hlb := box_lt g6.box
  go_upto_region 10 with fail
  have h7 : RdM w _ S7 #[.int .i64 z0, .int .i64 z1, .int .i64 z2, .int .i64 z3, .int .i64 z4, .int .i64 z5, .int .i64 z6, .int .i64 0, .bool false, .int .i64 0, .slice none 0 0, .int .i64 0, .int .i64 0, .slice none 0 0, .slice none 0 0, .slice none 0 0] #[.int .i64 0, .int .i64 0, .int .i64 0, .int .i64 0, .int .i64 0, .int .i64 0, .int .i64 0, .int .i64 0, .bool false, .int .i64 0, .slice none 0 0, .int .i64 0, .int .i64 0, .slice none 0 0, .slice none 0 0, .slice none 0 0] := g6.put 6 (.int .i64 z6) (by show 6 < 16; omega)
  clear g6 c6 fb hlb
  generalize y6.setCell ⟨w.heap.size + 2, 6, none⟩ (.int .i64 z6) = X6 at *
  have ki7 := h7.r.rint
  have HI7 : Hid (inI (int9 S7).1) := int9_in _
  go_wp2_with fail
  refine ki7.mono ?_
  rintro _ y7 ⟨rfl, hl7⟩
  have g7 := h7.left hl7
  clear h7 ki7 hl7
  generalize hA : int9 S7 = A at *
  obtain ⟨z7, S8⟩ := A
  have E7 : Hid (int9 S7 = (z7, S8)) := hA
  clear hA
  dsimp only at g7 HI7
  have c7 := box_cell g7.box 7
  have fb := frozen9 g7.box
  have hlb := box_lt g7.box
  go_upto_region 11 with fail
  have h8 : RdM w _ S8 #[.int .i64 z0, .int .i64 z1, .int .i64 z2, .int .i64 z3, .int .i64 z4, .int .i64 z5, .int .i64 z6, .int .i64 z7, .bool false, .int .i64 0, .slice none 0 0, .int .i64 0, .int .i64 0, .slice none 0 0, .slice none 0 0, .slice none 0 0] #[.int .i64 0, .int .i64 0, .int .i64 0, .int .i64 0, .int .i64 0, .int .i64 0, .int .i64 0, .int .i64 0, .bool false, .int .i64 0, .slice none 0 0, .int .i64 0, .int .i64 0, .slice none 0 0, .slice none 0 0, .slice none 0 0] := g7.put 7 (.int .i64 z7) (by show 7 < 16; omega)
  clear g7 c7 fb hlb
  generalize y7.setCell ⟨w.heap.size + 2, 7, none⟩ (.int .i64 z7) = X7 at *
  have ki8 := h8.r.rbool
  go_wp2_with fail
  refine ki8.mono ?_
  rintro _ y8 ⟨rfl, hl8⟩
  have g8 := h8.left hl8
  clear h8 ki8 hl8
  generalize hA : bool9 S8 = A at *
  obtain ⟨z8, S9⟩ := A
  have E8 : Hid (bool9 S8 = (z8, S9)) := hA
  clear hA
  dsimp only at g8
  have c8 := box_cell g8.box 8
  have fb := frozen9 g8.box
  have hlb := box_lt g8.box
  go_upto_region 12 with fail
  have h9 : RdM w _ S9 #[.int .i64 z0, .int .i64 z1, .int .i64 z2, .int .i64 z3, .int .i64 z4, .int .i64 z5, .int .i64 z6, .int .i64 z7, .bool z8, .int .i64 0, .slice none 0 0, .int .i64 0, .int .i64 0, .slice none 0 0, .slice none 0 0, .slice none 0 0] #[.int .i64 0, .int .i64 0, .int .i64 0, .int .i64 0, .int .i64 0, .int .i64 0, .int .i64 0, .int .i64 0, .bool false, .int .i64 0, .slice none 0 0, .int .i64 0, .int .i64 0, .slice none 0 0, .slice none 0 0, .slice none 0 0] := g8.put 8 (.bool z8) (by show 8 < 16; omega)
  clear g8 c8 fb hlb
  generalize y8.setCell ⟨w.heap.size + 2, 8, none⟩ (.bool z8) = X8 at *
  have ki9 := h9.r.rint
  have HI9 : Hid (inI (int9 S9).1) := int9_in _
  go_wp2_with fail
  refine ki9.mono ?_
  rintro _ y9 ⟨rfl, hl9⟩
  have g9 := h9.left hl9
  clear h9 ki9 hl9
  generalize hA : int9 S9 = A at *
  obtain ⟨z9, S10⟩ := A
  have E9 : Hid (int9 S9 = (z9, S10)) := hA
  clear hA
  dsimp only at g9 HI9
  have c9 := box_cell g9.box 9
  have fb := frozen9 g9.box
  have hlb := box_lt g9.box
  go_upto_region 13 with fail
  have h10 : RdM w _ S10 #[.int .i64 z0, .int .i64 z1, .int .i64 z2, .int .i64 z3, .int .i64 z4, .int .i64 z5, .int .i64 z6, .int .i64 z7, .bool z8, .int .i64 z9, .slice none 0 0, .int .i64 0, .int .i64 0, .slice none 0 0, .slice none 0 0, .slice none 0 0] #[.int .i64 0, .int .i64 0, .int .i64 0, .int .i64 0, .int .i64 0, .int .i64 0, .int .i64 0, .int .i64 0, .bool false, .int .i64 0, .slice none 0 0, .int .i64 0, .int .i64 0, .slice none 0 0, .slice none 0 0, .slice none 0 0] := g9.put 9 (.int .i64 z9) (by show 9 < 16; omega)
  clear g9 c9 fb hlb
  generalize y9.setCell ⟨w.heap.size + 2, 9, none⟩ (.int .i64 z9) = X9 at *
  replace HD : Hid (∀ x S', Tell10 (dtail10 z0 z1 z2 z3 z4 z5 z6 z7 z8 z9 S10) x S' → R = if (S'.1.isEmpty && !S'.2) && goodM10 x then (x, 0) else (noM10, 8)) := fun x S' ht => HD.out x S' (by rw [msg10_is E0.out E1.out E2.out E3.out E4.out E5.out E6.out E7.out E8.out E9.out]; exact ht)
  clear E0 E1 E2 E3 E4 E5 E6 E7 E8 E9
  have e5 : z0 ≠ 5 := HK.out.1
  have e7 : z0 ≠ 7 := HK.out.2
  have HWf : Hid (R = if (S10.1.isEmpty && !S10.2) && goodM10 (MsgV.m ⟨z0, z1, z2, z3, z4, z5, z6, z7, z8, z9, nilS10, [], noSV⟩) then (MsgV.m ⟨z0, z1, z2, z3, z4, z5, z6, z7, z8, z9, nilS10, [], noSV⟩, 0) else (noM10, 8)) := HD.out _ _ (.inl (by rw [dtail10_else _ _ _ _ _ _ _ _ _ _ _ e5 e7]; rfl))
  have e5' : (z0 == 5) = false := by simpa using e5
  have e7' : (z0 == 7) = false := by simpa using e7
  have hM : LiesM X9 (w.heap.size + 3) ⟨z0, z1, z2, z3, z4, z5, z6, z7, z8, z9, nilS10, [], noSV⟩ := ⟨HI0.out, HI1.out, HI2.out, HI3.out, HI4.out, HI5.out, HI6.out, HI7.out, HI9.out, OwnsEs.nil _ _, Nat.zero_le _, LiesS.nil _ _⟩
  have hx := h10
  clear HD HK e5 e7 h10
  have kf := hx.r.rfin
  generalize hfi : (S10.1.isEmpty && !S10.2) = fi at *
  clear hfi
  have c0 := box_cell hx.box 0
  have hlb := box_lt hx.box
  go_wp2_with fail
  refine same_mono kf ?_
  clear kf c0 hlb
  cases fi with
  | false =>
    have HW : Hid (R = (noM10, 8)) := by rw [Hid, HWf.out]; rfl
    clear HWf hM
    have d0 := box_cell hx.res 0
    have d1 := box_cell hx.res 1
    have d2 := box_cell hx.res 2
    have d3 := box_cell hx.res 3
    have d4 := box_cell hx.res 4
    have d5 := box_cell hx.res 5
    have d6 := box_cell hx.res 6
    have d7 := box_cell hx.res 7
    have d8 := box_cell hx.res 8
    have d9 := box_cell hx.res 9
    have d10 := box_cell hx.res 10
    have d11 := box_cell hx.res 11
    have d12 := box_cell hx.res 12
    have d13 := box_cell hx.res 13
    have d14 := box_cell hx.res 14
    have d15 := box_cell hx.res 15
    have fb := frozen9 hx.res
    have hlr := box_lt hx.res
    go_wp2
    have hF := fillM (b := w.heap.size) (x0 := noMV) hx.res 0 0 0 0 0 0 0 0 false 0 none 0 0 0 0 none 0 0 none 0 0 none 0 0 noF10 [] []
    have hB9 : Below w.heap.size w _ := ((((((((((((((((hx.r.bel.setCell (p := ⟨w.heap.size, 0, none⟩) (Nat.le_refl _) (.int .i64 0)).setCell (p := ⟨w.heap.size, 1, none⟩) (Nat.le_refl _) (.int .i64 0)).setCell (p := ⟨w.heap.size, 2, none⟩) (Nat.le_refl _) (.int .i64 0)).setCell (p := ⟨w.heap.size, 3, none⟩) (Nat.le_refl _) (.int .i64 0)).setCell (p := ⟨w.heap.size, 4, none⟩) (Nat.le_refl _) (.int .i64 0)).setCell (p := ⟨w.heap.size, 5, none⟩) (Nat.le_refl _) (.int .i64 0)).setCell (p := ⟨w.heap.size, 6, none⟩) (Nat.le_refl _) (.int .i64 0)).setCell (p := ⟨w.heap.size, 7, none⟩) (Nat.le_refl _) (.int .i64 0)).setCell (p := ⟨w.heap.size, 8, none⟩) (Nat.le_refl _) (.bool false)).setCell (p := ⟨w.heap.size, 9, none⟩) (Nat.le_refl _) (.int .i64 0)).setCell (p := ⟨w.heap.size, 10, none⟩) (Nat.le_refl _) (.slice none 0 0)).setCell (p := ⟨w.heap.size, 11, none⟩) (Nat.le_refl _) (.int .i64 0)).setCell (p := ⟨w.heap.size, 12, none⟩) (Nat.le_refl _) (.int .i64 0)).setCell (p := ⟨w.heap.size, 13, none⟩) (Nat.le_refl _) (.slice none 0 0)).setCell (p := ⟨w.heap.size, 14, none⟩) (Nat.le_refl _) (.slice none 0 0)).setCell (p := ⟨w.heap.size, 15, none⟩) (Nat.le_refl _) (.slice none 0 0))
    refine bodyPost_ret (ret_cell9 rfl _ _ w.heap.size _ _ _ _ rfl hF Tryz.underlying53 rfl (by kernel_rfl)) rfl ⟨noMV, ?_, ?_, (LiesM.nil _ w.heap.size).fits, hB9⟩
    · rw [HW.out]; rfl
    · rw [HW.out]; rfl
  | true =>
    have kg := rgoodMsg_any ⟨z0, z1, z2, z3, z4, z5, z6, z7, z8, z9, nilS10, [], noSV⟩ X9 hM.fits
    generalize hgx : goodM10 (MsgV.m ⟨z0, z1, z2, z3, z4, z5, z6, z7, z8, z9, nilS10, [], noSV⟩) = gx at *
    clear hgx
    generalize hxm : MsgV.m ⟨z0, z1, z2, z3, z4, z5, z6, z7, z8, z9, nilS10, [], noSV⟩ = xm at *
    have HXm : Hid (MsgV.m ⟨z0, z1, z2, z3, z4, z5, z6, z7, z8, z9, nilS10, [], noSV⟩ = xm) := hxm
    clear hxm
    unfold MsgV.arr at kg
    dsimp only [noSV, noFV, nilS10] at kg
    have c0 := box_cell hx.box 0
    have c1 := box_cell hx.box 1
    have c2 := box_cell hx.box 2
    have c3 := box_cell hx.box 3
    have c4 := box_cell hx.box 4
    have c5 := box_cell hx.box 5
    have c6 := box_cell hx.box 6
    have c7 := box_cell hx.box 7
    have c8 := box_cell hx.box 8
    have c9 := box_cell hx.box 9
    have c10 := box_cell hx.box 10
    have c11 := box_cell hx.box 11
    have c12 := box_cell hx.box 12
    have c13 := box_cell hx.box 13
    have c14 := box_cell hx.box 14
    have c15 := box_cell hx.box 15
    have hlx := box_lt hx.box
    go_wp2_with fail
    refine kg.mono ?_
    rintro _ w5 ⟨rfl, hb5⟩
    have h5 := hx.more hb5
    have hM5 := hM.below hb5
    clear kg hx hM hb5 c0 c1 c2 c3 c4 c5 c6 c7 c8 c9 c10 c11 c12 c13 c14 c15 hlx
    cases gx with
    | false =>
      have HW : Hid (R = (noM10, 8)) := by rw [Hid, HWf.out]; rfl
      clear HWf hM5
      have d0 := box_cell h5.res 0
      have d1 := box_cell h5.res 1
      have d2 := box_cell h5.res 2
      have d3 := box_cell h5.res 3
      have d4 := box_cell h5.res 4
      have d5 := box_cell h5.res 5
      have d6 := box_cell h5.res 6
      have d7 := box_cell h5.res 7
      have d8 := box_cell h5.res 8
      have d9 := box_cell h5.res 9
      have d10 := box_cell h5.res 10
      have d11 := box_cell h5.res 11
      have d12 := box_cell h5.res 12
      have d13 := box_cell h5.res 13
      have d14 := box_cell h5.res 14
      have d15 := box_cell h5.res 15
      have fb := frozen9 h5.res
      have hlr := box_lt h5.res
      go_wp2
      have hF := fillM (b := w.heap.size) (x0 := noMV) h5.res 0 0 0 0 0 0 0 0 false 0 none 0 0 0 0 none 0 0 none 0 0 none 0 0 noF10 [] []
      have hB9 : Below w.heap.size w _ := ((((((((((((((((h5.r.bel.setCell (p := ⟨w.heap.size, 0, none⟩) (Nat.le_refl _) (.int .i64 0)).setCell (p := ⟨w.heap.size, 1, none⟩) (Nat.le_refl _) (.int .i64 0)).setCell (p := ⟨w.heap.size, 2, none⟩) (Nat.le_refl _) (.int .i64 0)).setCell (p := ⟨w.heap.size, 3, none⟩) (Nat.le_refl _) (.int .i64 0)).setCell (p := ⟨w.heap.size, 4, none⟩) (Nat.le_refl _) (.int .i64 0)).setCell (p := ⟨w.heap.size, 5, none⟩) (Nat.le_refl _) (.int .i64 0)).setCell (p := ⟨w.heap.size, 6, none⟩) (Nat.le_refl _) (.int .i64 0)).setCell (p := ⟨w.heap.size, 7, none⟩) (Nat.le_refl _) (.int .i64 0)).setCell (p := ⟨w.heap.size, 8, none⟩) (Nat.le_refl _) (.bool false)).setCell (p := ⟨w.heap.size, 9, none⟩) (Nat.le_refl _) (.int .i64 0)).setCell (p := ⟨w.heap.size, 10, none⟩) (Nat.le_refl _) (.slice none 0 0)).setCell (p := ⟨w.heap.size, 11, none⟩) (Nat.le_refl _) (.int .i64 0)).setCell (p := ⟨w.heap.size, 12, none⟩) (Nat.le_refl _) (.int .i64 0)).setCell (p := ⟨w.heap.size, 13, none⟩) (Nat.le_refl _) (.slice none 0 0)).setCell (p := ⟨w.heap.size, 14, none⟩) (Nat.le_refl _) (.slice none 0 0)).setCell (p := ⟨w.heap.size, 15, none⟩) (Nat.le_refl _) (.slice none 0 0))
      refine bodyPost_ret (ret_cell9 rfl _ _ w.heap.size _ _ _ _ rfl hF Tryz.underlying53 rfl (by kernel_rfl)) rfl ⟨noMV, ?_, ?_, (LiesM.nil _ w.heap.size).fits, hB9⟩
      · rw [HW.out]; rfl
      · rw [HW.out]; rfl
    | true =>
      have HW : Hid (R = (xm, 0)) := by rw [Hid, HWf.out]; rfl
      clear HWf
      have c0 := box_cell h5.box 0
      have d0 := box_cell h5.res 0
      have c1 := box_cell h5.box 1
      have d1 := box_cell h5.res 1
      have c2 := box_cell h5.box 2
      have d2 := box_cell h5.res 2
      have c3 := box_cell h5.box 3
      have d3 := box_cell h5.res 3
      have c4 := box_cell h5.box 4
      have d4 := box_cell h5.res 4
      have c5 := box_cell h5.box 5
      have d5 := box_cell h5.res 5
      have c6 := box_cell h5.box 6
      have d6 := box_cell h5.res 6
      have c7 := box_cell h5.box 7
      have d7 := box_cell h5.res 7
      have c8 := box_cell h5.box 8
      have d8 := box_cell h5.res 8
      have c9 := box_cell h5.box 9
      have d9 := box_cell h5.res 9
      have c10 := box_cell h5.box 10
      have d10 := box_cell h5.res 10
      have c11 := box_cell h5.box 11
      have d11 := box_cell h5.res 11
      have c12 := box_cell h5.box 12
      have d12 := box_cell h5.res 12
      have c13 := box_cell h5.box 13
      have d13 := box_cell h5.res 13
      have c14 := box_cell h5.box 14
      have d14 := box_cell h5.res 14
      have c15 := box_cell h5.box 15
      have d15 := box_cell h5.res 15
      have hlx := box_lt h5.box
      have hlr := box_lt h5.res
      have fb := frozen9 h5.res
      go_wp2
      have hF := fillM (b := w.heap.size) (x0 := noMV) h5.res z0 z1 z2 z3 z4 z5 z6 z7 z8 z9 none 0 0 0 0 none 0 0 none 0 0 none 0 0 noF10 [] []
      have hO9 := ((((((((((((((((((((((((((((((((hM5).cell (b := w.heap.size) (by omega) 0 (.int .i64 z0))).cell (b := w.heap.size) (by omega) 1 (.int .i64 z1))).cell (b := w.heap.size) (by omega) 2 (.int .i64 z2))).cell (b := w.heap.size) (by omega) 3 (.int .i64 z3))).cell (b := w.heap.size) (by omega) 4 (.int .i64 z4))).cell (b := w.heap.size) (by omega) 5 (.int .i64 z5))).cell (b := w.heap.size) (by omega) 6 (.int .i64 z6))).cell (b := w.heap.size) (by omega) 7 (.int .i64 z7))).cell (b := w.heap.size) (by omega) 8 (.bool z8))).cell (b := w.heap.size) (by omega) 9 (.int .i64 z9))).cell (b := w.heap.size) (by omega) 10 (.slice none 0 0))).cell (b := w.heap.size) (by omega) 11 (.int .i64 0))).cell (b := w.heap.size) (by omega) 12 (.int .i64 0))).cell (b := w.heap.size) (by omega) 13 (.slice none 0 0))).cell (b := w.heap.size) (by omega) 14 (.slice none 0 0))).cell (b := w.heap.size) (by omega) 15 (.slice none 0 0))
      have hB9 : Below w.heap.size w _ := ((((((((((((((((h5.r.bel.setCell (p := ⟨w.heap.size, 0, none⟩) (Nat.le_refl _) (.int .i64 z0)).setCell (p := ⟨w.heap.size, 1, none⟩) (Nat.le_refl _) (.int .i64 z1)).setCell (p := ⟨w.heap.size, 2, none⟩) (Nat.le_refl _) (.int .i64 z2)).setCell (p := ⟨w.heap.size, 3, none⟩) (Nat.le_refl _) (.int .i64 z3)).setCell (p := ⟨w.heap.size, 4, none⟩) (Nat.le_refl _) (.int .i64 z4)).setCell (p := ⟨w.heap.size, 5, none⟩) (Nat.le_refl _) (.int .i64 z5)).setCell (p := ⟨w.heap.size, 6, none⟩) (Nat.le_refl _) (.int .i64 z6)).setCell (p := ⟨w.heap.size, 7, none⟩) (Nat.le_refl _) (.int .i64 z7)).setCell (p := ⟨w.heap.size, 8, none⟩) (Nat.le_refl _) (.bool z8)).setCell (p := ⟨w.heap.size, 9, none⟩) (Nat.le_refl _) (.int .i64 z9)).setCell (p := ⟨w.heap.size, 10, none⟩) (Nat.le_refl _) (.slice none 0 0)).setCell (p := ⟨w.heap.size, 11, none⟩) (Nat.le_refl _) (.int .i64 0)).setCell (p := ⟨w.heap.size, 12, none⟩) (Nat.le_refl _) (.int .i64 0)).setCell (p := ⟨w.heap.size, 13, none⟩) (Nat.le_refl _) (.slice none 0 0)).setCell (p := ⟨w.heap.size, 14, none⟩) (Nat.le_refl _) (.slice none 0 0)).setCell (p := ⟨w.heap.size, 15, none⟩) (Nat.le_refl _) (.slice none 0 0))
      refine bodyPost_ret (ret_cell9 rfl _ _ w.heap.size _ _ _ _ rfl hF Tryz.underlying53 rfl (by kernel_rfl)) rfl ⟨⟨z0, z1, z2, z3, z4, z5, z6, z7, z8, z9, nilS10, [], noSV⟩, ?_, ?_, hO9.fits, hB9⟩
      · rw [HW.out]; rfl
      · rw [HW.out]; exact HXm.out
end Go.Proofs.YtnbaoimjcaeeaaaGreat
