/-
  Contracts: entry.whole at messages, ReadMsg.
-/
import Derived.Test.YtnbaoimjcaeeaaaGreatEp2
import Derived.Test.YtnbaoimjcaeeaaaGreatEp3
namespace Go.Proofs.YtnbaoimjcaeeaaaGreat
open Go.RowKit Go.Shelf

set_option maxRecDepth 100000 in
set_option maxHeartbeats 4000000 in
theorem wholeM_a (w0 w : World) (rb : Nat) (S : St) (h : Rdr w0 w rb S) (hk : ((pmsg10 S).2.1.isEmpty && !(pmsg10 S).2.2) = false) :
    Calls Tryz.prog 44 #[.pointer (some ⟨rb, 0, none⟩), .func (.func 45) #[.pointer (some ⟨rb, 0, none⟩)] #[], .func (.func 17) #[] #[]] w fun e w' => ∃ X : MsgV, e = .returned (.tuple #[.agg X.arr, .int .i64 (whole10 goodM10 noM10 (pmsg10 S)).2]) ∧ X.m = (whole10 goodM10 noM10 (pmsg10 S)).1 ∧ OwnsM w' w.heap.size X ∧ Below w0.heap.size w0 w' ∧ w.grownBy w' (some rb) := by
  have hb1 : Below w.heap.size w (w.alloc (.cells #[.int .i64 0, .int .i64 0, .int .i64 0, .int .i64 0, .int .i64 0, .int .i64 0, .int .i64 0, .int .i64 0, .bool false, .int .i64 0, .slice none 0 0, .int .i64 0, .int .i64 0, .slice none 0 0, .slice none 0 0, .slice none 0 0] 53)) := (Below.refl _ _).alloc (Nat.le_refl _) _
  have hbox : MsgAt (w.alloc (.cells #[.int .i64 0, .int .i64 0, .int .i64 0, .int .i64 0, .int .i64 0, .int .i64 0, .int .i64 0, .int .i64 0, .bool false, .int .i64 0, .slice none 0 0, .int .i64 0, .int .i64 0, .slice none 0 0, .slice none 0 0, .slice none 0 0] 53)) w.heap.size noMV := heap_alloc_new w _
  have hz1 : (w.alloc (.cells #[.int .i64 0, .int .i64 0, .int .i64 0, .int .i64 0, .int .i64 0, .int .i64 0, .int .i64 0, .int .i64 0, .bool false, .int .i64 0, .slice none 0 0, .int .i64 0, .int .i64 0, .slice none 0 0, .slice none 0 0, .slice none 0 0] 53)).heap.size = w.heap.size + 1 := by simp
  have hrl := h.lt
  have HK : Hid (((pmsg10 S).2.1.isEmpty && !(pmsg10 S).2.2) = false) := hk
  clear hk
  have k1 := msgR_any w0 _ rb S (h.more hb1)
  have HW0 : Hid (whole10 goodM10 noM10 (pmsg10 S) = if ((pmsg10 S).2.1.isEmpty && !(pmsg10 S).2.2) && goodM10 (pmsg10 S).1 then ((pmsg10 S).1, 0) else (noM10, 8)) := rfl
  generalize whole10 goodM10 noM10 (pmsg10 S) = R at *
  generalize pmsg10 S = A at *
  obtain ⟨x0, S1⟩ := A
  dsimp only at k1 HW0 HK
  clear h
  go_enter Tryz.func44, Tryz.ntmps44
  go_wp2_with fail
  generalize w.alloc (.cells #[.int .i64 0, .int .i64 0, .int .i64 0, .int .i64 0, .int .i64 0, .int .i64 0, .int .i64 0, .int .i64 0, .bool false, .int .i64 0, .slice none 0 0, .int .i64 0, .int .i64 0, .slice none 0 0, .slice none 0 0, .slice none 0 0] 53) = W1 at *
  refine k1.mono ?_
  rintro _ w2 ⟨X, rfl, hX, hM, hR2, hg2⟩
  have hbox2 : MsgAt w2 w.heap.size noMV := grown_box hg2 hbox (by omega)
  have hG2 := grown_after hb1 hg2
  have hsz2 := hg2.size
  have hb3 : Below w2.heap.size w2 (w2.alloc (.cells X.arr 53)) := (Below.refl _ _).alloc (Nat.le_refl _) _
  have hbn3 : MsgAt (w2.alloc (.cells X.arr 53)) w2.heap.size X := heap_alloc_new w2 _
  have hbox3 := box_below hbox2 hb3
  have hR3 := hR2.more hb3
  have hG3 := grown_trans hG2 (below_grownBy hb3)
  have hM3 := hM.below hb3
  have kg : Calls Tryz.prog 17 #[.agg X.arr] (w2.alloc (.cells X.arr 53)) fun e w' => e = .returned (.bool (goodM10 X.m)) ∧ Below (w2.alloc (.cells X.arr 53)).heap.size (w2.alloc (.cells X.arr 53)) w' := (fun W h => goodMsg_any X W h) _ hM3.fits
  have kf := hR3.fin
  have HX : Hid (X.m = x0) := hX
  rw [hX] at kg
  clear k1 hbox hR2 hg2 hbox2 hG2 hb3 hM hX
  generalize hgx : goodM10 x0 = gx at *
  have HGX : Hid (goodM10 x0 = gx) := hgx
  clear hgx
  obtain ⟨k, fr, too, t, i, lt, cm, ro, rej, hint, ⟨a1, b1, e1⟩, es, ⟨si, st, ⟨⟨p, n, c⟩, ⟨q, m, d⟩, f⟩, ⟨a, b0, e0⟩, dd⟩⟩ := X
  unfold MsgV.arr at *
  dsimp only at *
  go_wp2_with fail
  generalize w2.alloc (.cells #[.int .i64 k, .int .i64 fr, .int .i64 too, .int .i64 t, .int .i64 i, .int .i64 lt, .int .i64 cm, .int .i64 ro, .bool rej, .int .i64 hint, .slice a1 b1 e1, .int .i64 si, .int .i64 st, .slice p n c, .slice q m d, .slice a b0 e0] 53) = W3 at *
  generalize w2.heap.size = bx at *
  generalize hfi : (S1.1.isEmpty && !S1.2) = fi at *
  cases fi with
  | false =>
    have HW : Hid (R = (noM10, 8)) := by rw [Hid, HW0.out]; rfl
    clear HW0
    refine same_mono kf ?_
    have hbn : Below W3.heap.size W3 (W3.alloc (.cells #[.int .i64 0, .int .i64 0, .int .i64 0, .int .i64 0, .int .i64 0, .int .i64 0, .int .i64 0, .int .i64 0, .bool false, .int .i64 0, .slice none 0 0, .int .i64 0, .int .i64 0, .slice none 0 0, .slice none 0 0, .slice none 0 0] 53)) := (Below.refl _ _).alloc (Nat.le_refl _) _
    have hbx : MsgAt (W3.alloc (.cells #[.int .i64 0, .int .i64 0, .int .i64 0, .int .i64 0, .int .i64 0, .int .i64 0, .int .i64 0, .int .i64 0, .bool false, .int .i64 0, .slice none 0 0, .int .i64 0, .int .i64 0, .slice none 0 0, .slice none 0 0, .slice none 0 0] 53)) w.heap.size noMV := box_below hbox3 hbn
    have hnn : MsgAt (W3.alloc (.cells #[.int .i64 0, .int .i64 0, .int .i64 0, .int .i64 0, .int .i64 0, .int .i64 0, .int .i64 0, .int .i64 0, .bool false, .int .i64 0, .slice none 0 0, .int .i64 0, .int .i64 0, .slice none 0 0, .slice none 0 0, .slice none 0 0] 53)) W3.heap.size noMV := heap_alloc_new W3 _
    have hRn := hR3.more hbn
    have hGn := grown_trans hG3 (below_grownBy hbn)
    have d0 := box_cell hbx 0
    have d1 := box_cell hbx 1
    have d2 := box_cell hbx 2
    have d3 := box_cell hbx 3
    have d4 := box_cell hbx 4
    have d5 := box_cell hbx 5
    have d6 := box_cell hbx 6
    have d7 := box_cell hbx 7
    have d8 := box_cell hbx 8
    have d9 := box_cell hbx 9
    have d10 := box_cell hbx 10
    have d11 := box_cell hbx 11
    have d12 := box_cell hbx 12
    have d13 := box_cell hbx 13
    have d14 := box_cell hbx 14
    have d15 := box_cell hbx 15
    have fb := frozen9 hbx
    have hlr := box_lt hbx
    have e0 := box_cell hnn 0
    have e1 := box_cell hnn 1
    have e2 := box_cell hnn 2
    have e3 := box_cell hnn 3
    have e4 := box_cell hnn 4
    have e5 := box_cell hnn 5
    have e6 := box_cell hnn 6
    have e7 := box_cell hnn 7
    have e8 := box_cell hnn 8
    have e9 := box_cell hnn 9
    have e10 := box_cell hnn 10
    have e11 := box_cell hnn 11
    have e12 := box_cell hnn 12
    have e13 := box_cell hnn 13
    have e14 := box_cell hnn 14
    have e15 := box_cell hnn 15
    have hln := box_lt hnn
    have hMn := OwnsM.nil (W3.alloc (.cells #[.int .i64 0, .int .i64 0, .int .i64 0, .int .i64 0, .int .i64 0, .int .i64 0, .int .i64 0, .int .i64 0, .bool false, .int .i64 0, .slice none 0 0, .int .i64 0, .int .i64 0, .slice none 0 0, .slice none 0 0, .slice none 0 0] 53)) (w.heap.size + 1)
    dsimp only [MsgV.arr, noMV, noSV, noFV, nilS10] at d0 d1 d2 d3 d4 d5 d6 d7 d8 d9 d10 d11 d12 d13 d14 d15 e0 e1 e2 e3 e4 e5 e6 e7 e8 e9 e10 e11 e12 e13 e14 e15
    go_upto_region 4 with fail
    generalize W3.alloc (.cells #[.int .i64 0, .int .i64 0, .int .i64 0, .int .i64 0, .int .i64 0, .int .i64 0, .int .i64 0, .int .i64 0, .bool false, .int .i64 0, .slice none 0 0, .int .i64 0, .int .i64 0, .slice none 0 0, .slice none 0 0, .slice none 0 0] 53) = W9 at *
    generalize W3.heap.size = nb at *
    go_wp2
    have hF := fillM (b := w.heap.size) (x0 := noMV) hbx 0 0 0 0 0 0 0 0 false 0 none 0 0 0 0 none 0 0 none 0 0 none 0 0 noF10 [] []
    have hR9 := ((((((((((((((((((((((((((((((((hRn).cell (b := w.heap.size) (by omega) (by omega) 0 (.int .i64 0))).cell (b := w.heap.size) (by omega) (by omega) 1 (.int .i64 0))).cell (b := w.heap.size) (by omega) (by omega) 2 (.int .i64 0))).cell (b := w.heap.size) (by omega) (by omega) 3 (.int .i64 0))).cell (b := w.heap.size) (by omega) (by omega) 4 (.int .i64 0))).cell (b := w.heap.size) (by omega) (by omega) 5 (.int .i64 0))).cell (b := w.heap.size) (by omega) (by omega) 6 (.int .i64 0))).cell (b := w.heap.size) (by omega) (by omega) 7 (.int .i64 0))).cell (b := w.heap.size) (by omega) (by omega) 8 (.bool false))).cell (b := w.heap.size) (by omega) (by omega) 9 (.int .i64 0))).cell (b := w.heap.size) (by omega) (by omega) 10 (.slice none 0 0))).cell (b := w.heap.size) (by omega) (by omega) 11 (.int .i64 0))).cell (b := w.heap.size) (by omega) (by omega) 12 (.int .i64 0))).cell (b := w.heap.size) (by omega) (by omega) 13 (.slice none 0 0))).cell (b := w.heap.size) (by omega) (by omega) 14 (.slice none 0 0))).cell (b := w.heap.size) (by omega) (by omega) 15 (.slice none 0 0))
    have hG9 := (grown_new (b := w.heap.size) (grown_new (b := w.heap.size) (grown_new (b := w.heap.size) (grown_new (b := w.heap.size) (grown_new (b := w.heap.size) (grown_new (b := w.heap.size) (grown_new (b := w.heap.size) (grown_new (b := w.heap.size) (grown_new (b := w.heap.size) (grown_new (b := w.heap.size) (grown_new (b := w.heap.size) (grown_new (b := w.heap.size) (grown_new (b := w.heap.size) (grown_new (b := w.heap.size) (grown_new (b := w.heap.size) (grown_new (b := w.heap.size) hGn (by omega) 0 (.int .i64 0)) (by omega) 1 (.int .i64 0)) (by omega) 2 (.int .i64 0)) (by omega) 3 (.int .i64 0)) (by omega) 4 (.int .i64 0)) (by omega) 5 (.int .i64 0)) (by omega) 6 (.int .i64 0)) (by omega) 7 (.int .i64 0)) (by omega) 8 (.bool false)) (by omega) 9 (.int .i64 0)) (by omega) 10 (.slice none 0 0)) (by omega) 11 (.int .i64 0)) (by omega) 12 (.int .i64 0)) (by omega) 13 (.slice none 0 0)) (by omega) 14 (.slice none 0 0)) (by omega) 15 (.slice none 0 0))
    have hO9 := ((((((((((((((((((((((((((((((((hMn).cell (b := w.heap.size) (by omega) 0 (.int .i64 0))).cell (b := w.heap.size) (by omega) 1 (.int .i64 0))).cell (b := w.heap.size) (by omega) 2 (.int .i64 0))).cell (b := w.heap.size) (by omega) 3 (.int .i64 0))).cell (b := w.heap.size) (by omega) 4 (.int .i64 0))).cell (b := w.heap.size) (by omega) 5 (.int .i64 0))).cell (b := w.heap.size) (by omega) 6 (.int .i64 0))).cell (b := w.heap.size) (by omega) 7 (.int .i64 0))).cell (b := w.heap.size) (by omega) 8 (.bool false))).cell (b := w.heap.size) (by omega) 9 (.int .i64 0))).cell (b := w.heap.size) (by omega) 10 (.slice none 0 0))).cell (b := w.heap.size) (by omega) 11 (.int .i64 0))).cell (b := w.heap.size) (by omega) 12 (.int .i64 0))).cell (b := w.heap.size) (by omega) 13 (.slice none 0 0))).cell (b := w.heap.size) (by omega) 14 (.slice none 0 0))).cell (b := w.heap.size) (by omega) 15 (.slice none 0 0))
    refine bodyPost_ret (ret_cell9 rfl _ _ w.heap.size _ _ _ _ rfl hF Tryz.underlying53 rfl (by kernel_rfl)) rfl ⟨noMV, ?_, ?_, hO9.mono (by omega), hR9.bel, hG9⟩
    · rw [HW.out]; rfl
    · rw [HW.out]; rfl
  | true => exact absurd HK.out (by decide)

set_option maxRecDepth 100000 in
set_option maxHeartbeats 4000000 in
theorem wholeM_b (w0 w : World) (rb : Nat) (S : St) (h : Rdr w0 w rb S) (hk : ((pmsg10 S).2.1.isEmpty && !(pmsg10 S).2.2) = true) (hg : goodM10 (pmsg10 S).1 = false) :
    Calls Tryz.prog 44 #[.pointer (some ⟨rb, 0, none⟩), .func (.func 45) #[.pointer (some ⟨rb, 0, none⟩)] #[], .func (.func 17) #[] #[]] w fun e w' => ∃ X : MsgV, e = .returned (.tuple #[.agg X.arr, .int .i64 (whole10 goodM10 noM10 (pmsg10 S)).2]) ∧ X.m = (whole10 goodM10 noM10 (pmsg10 S)).1 ∧ OwnsM w' w.heap.size X ∧ Below w0.heap.size w0 w' ∧ w.grownBy w' (some rb) := by
  have hb1 : Below w.heap.size w (w.alloc (.cells #[.int .i64 0, .int .i64 0, .int .i64 0, .int .i64 0, .int .i64 0, .int .i64 0, .int .i64 0, .int .i64 0, .bool false, .int .i64 0, .slice none 0 0, .int .i64 0, .int .i64 0, .slice none 0 0, .slice none 0 0, .slice none 0 0] 53)) := (Below.refl _ _).alloc (Nat.le_refl _) _
  have hbox : MsgAt (w.alloc (.cells #[.int .i64 0, .int .i64 0, .int .i64 0, .int .i64 0, .int .i64 0, .int .i64 0, .int .i64 0, .int .i64 0, .bool false, .int .i64 0, .slice none 0 0, .int .i64 0, .int .i64 0, .slice none 0 0, .slice none 0 0, .slice none 0 0] 53)) w.heap.size noMV := heap_alloc_new w _
  have hz1 : (w.alloc (.cells #[.int .i64 0, .int .i64 0, .int .i64 0, .int .i64 0, .int .i64 0, .int .i64 0, .int .i64 0, .int .i64 0, .bool false, .int .i64 0, .slice none 0 0, .int .i64 0, .int .i64 0, .slice none 0 0, .slice none 0 0, .slice none 0 0] 53)).heap.size = w.heap.size + 1 := by simp
  have hrl := h.lt
  have HK : Hid (((pmsg10 S).2.1.isEmpty && !(pmsg10 S).2.2) = true) := hk
  have HK2 : Hid (goodM10 (pmsg10 S).1 = false) := hg
  clear hk hg
  have k1 := msgR_any w0 _ rb S (h.more hb1)
  have HW0 : Hid (whole10 goodM10 noM10 (pmsg10 S) = if ((pmsg10 S).2.1.isEmpty && !(pmsg10 S).2.2) && goodM10 (pmsg10 S).1 then ((pmsg10 S).1, 0) else (noM10, 8)) := rfl
  generalize whole10 goodM10 noM10 (pmsg10 S) = R at *
  generalize pmsg10 S = A at *
  obtain ⟨x0, S1⟩ := A
  dsimp only at k1 HW0 HK HK2
  clear h
  go_enter Tryz.func44, Tryz.ntmps44
  go_wp2_with fail
  generalize w.alloc (.cells #[.int .i64 0, .int .i64 0, .int .i64 0, .int .i64 0, .int .i64 0, .int .i64 0, .int .i64 0, .int .i64 0, .bool false, .int .i64 0, .slice none 0 0, .int .i64 0, .int .i64 0, .slice none 0 0, .slice none 0 0, .slice none 0 0] 53) = W1 at *
  refine k1.mono ?_
  rintro _ w2 ⟨X, rfl, hX, hM, hR2, hg2⟩
  have hbox2 : MsgAt w2 w.heap.size noMV := grown_box hg2 hbox (by omega)
  have hG2 := grown_after hb1 hg2
  have hsz2 := hg2.size
  have hb3 : Below w2.heap.size w2 (w2.alloc (.cells X.arr 53)) := (Below.refl _ _).alloc (Nat.le_refl _) _
  have hbn3 : MsgAt (w2.alloc (.cells X.arr 53)) w2.heap.size X := heap_alloc_new w2 _
  have hbox3 := box_below hbox2 hb3
  have hR3 := hR2.more hb3
  have hG3 := grown_trans hG2 (below_grownBy hb3)
  have hM3 := hM.below hb3
  have kg : Calls Tryz.prog 17 #[.agg X.arr] (w2.alloc (.cells X.arr 53)) fun e w' => e = .returned (.bool (goodM10 X.m)) ∧ Below (w2.alloc (.cells X.arr 53)).heap.size (w2.alloc (.cells X.arr 53)) w' := (fun W h => goodMsg_any X W h) _ hM3.fits
  have kf := hR3.fin
  have HX : Hid (X.m = x0) := hX
  rw [hX] at kg
  clear k1 hbox hR2 hg2 hbox2 hG2 hb3 hM hX
  generalize hgx : goodM10 x0 = gx at *
  have HGX : Hid (goodM10 x0 = gx) := hgx
  clear hgx
  obtain ⟨k, fr, too, t, i, lt, cm, ro, rej, hint, ⟨a1, b1, e1⟩, es, ⟨si, st, ⟨⟨p, n, c⟩, ⟨q, m, d⟩, f⟩, ⟨a, b0, e0⟩, dd⟩⟩ := X
  unfold MsgV.arr at *
  dsimp only at *
  go_wp2_with fail
  generalize w2.alloc (.cells #[.int .i64 k, .int .i64 fr, .int .i64 too, .int .i64 t, .int .i64 i, .int .i64 lt, .int .i64 cm, .int .i64 ro, .bool rej, .int .i64 hint, .slice a1 b1 e1, .int .i64 si, .int .i64 st, .slice p n c, .slice q m d, .slice a b0 e0] 53) = W3 at *
  generalize w2.heap.size = bx at *
  generalize hfi : (S1.1.isEmpty && !S1.2) = fi at *
  cases fi with
  | false => exact absurd HK.out (by decide)
  | true =>
    refine same_mono kf ?_
    clear kf
    replace hbn3 : MsgAt W3 bx ⟨k, fr, too, t, i, lt, cm, ro, rej, hint, ⟨a1, b1, e1⟩, es, ⟨si, st, ⟨⟨p, n, c⟩, ⟨q, m, d⟩, f⟩, ⟨a, b0, e0⟩, dd⟩⟩ := hbn3
    have c0 := box_cell hbn3 0
    have c1 := box_cell hbn3 1
    have c2 := box_cell hbn3 2
    have c3 := box_cell hbn3 3
    have c4 := box_cell hbn3 4
    have c5 := box_cell hbn3 5
    have c6 := box_cell hbn3 6
    have c7 := box_cell hbn3 7
    have c8 := box_cell hbn3 8
    have c9 := box_cell hbn3 9
    have c10 := box_cell hbn3 10
    have c11 := box_cell hbn3 11
    have c12 := box_cell hbn3 12
    have c13 := box_cell hbn3 13
    have c14 := box_cell hbn3 14
    have c15 := box_cell hbn3 15
    have hlx := box_lt hbn3
    dsimp only [MsgV.arr] at c0 c1 c2 c3 c4 c5 c6 c7 c8 c9 c10 c11 c12 c13 c14 c15
    go_wp2_with fail
    refine kg.mono ?_
    rintro _ w4 ⟨rfl, hb4⟩
    have hbx4 : MsgAt w4 bx ⟨k, fr, too, t, i, lt, cm, ro, rej, hint, ⟨a1, b1, e1⟩, es, ⟨si, st, ⟨⟨p, n, c⟩, ⟨q, m, d⟩, f⟩, ⟨a, b0, e0⟩, dd⟩⟩ := box_below hbn3 hb4
    have hbox4 : MsgAt w4 w.heap.size noMV := box_below hbox3 hb4
    have hR4 := hR3.more hb4
    have hG4 := grown_trans hG3 (below_grownBy hb4)
    have hM4 := hM3.below hb4
    clear kg hbn3 hbox3 hR3 hG3 hM3 hb4 c0 c1 c2 c3 c4 c5 c6 c7 c8 c9 c10 c11 c12 c13 c14 c15 hlx
    cases gx with
    | false =>
      have HW : Hid (R = (noM10, 8)) := by rw [Hid, HW0.out]; rfl
      clear HW0
      have hbn : Below w4.heap.size w4 (w4.alloc (.cells #[.int .i64 0, .int .i64 0, .int .i64 0, .int .i64 0, .int .i64 0, .int .i64 0, .int .i64 0, .int .i64 0, .bool false, .int .i64 0, .slice none 0 0, .int .i64 0, .int .i64 0, .slice none 0 0, .slice none 0 0, .slice none 0 0] 53)) := (Below.refl _ _).alloc (Nat.le_refl _) _
      have hbx : MsgAt (w4.alloc (.cells #[.int .i64 0, .int .i64 0, .int .i64 0, .int .i64 0, .int .i64 0, .int .i64 0, .int .i64 0, .int .i64 0, .bool false, .int .i64 0, .slice none 0 0, .int .i64 0, .int .i64 0, .slice none 0 0, .slice none 0 0, .slice none 0 0] 53)) w.heap.size noMV := box_below hbox4 hbn
      have hnn : MsgAt (w4.alloc (.cells #[.int .i64 0, .int .i64 0, .int .i64 0, .int .i64 0, .int .i64 0, .int .i64 0, .int .i64 0, .int .i64 0, .bool false, .int .i64 0, .slice none 0 0, .int .i64 0, .int .i64 0, .slice none 0 0, .slice none 0 0, .slice none 0 0] 53)) w4.heap.size noMV := heap_alloc_new w4 _
      have hRn := hR4.more hbn
      have hGn := grown_trans hG4 (below_grownBy hbn)
      have d0 := box_cell hbx 0
      have d1 := box_cell hbx 1
      have d2 := box_cell hbx 2
      have d3 := box_cell hbx 3
      have d4 := box_cell hbx 4
      have d5 := box_cell hbx 5
      have d6 := box_cell hbx 6
      have d7 := box_cell hbx 7
      have d8 := box_cell hbx 8
      have d9 := box_cell hbx 9
      have d10 := box_cell hbx 10
      have d11 := box_cell hbx 11
      have d12 := box_cell hbx 12
      have d13 := box_cell hbx 13
      have d14 := box_cell hbx 14
      have d15 := box_cell hbx 15
      have fb := frozen9 hbx
      have hlr := box_lt hbx
      have e0 := box_cell hnn 0
      have e1 := box_cell hnn 1
      have e2 := box_cell hnn 2
      have e3 := box_cell hnn 3
      have e4 := box_cell hnn 4
      have e5 := box_cell hnn 5
      have e6 := box_cell hnn 6
      have e7 := box_cell hnn 7
      have e8 := box_cell hnn 8
      have e9 := box_cell hnn 9
      have e10 := box_cell hnn 10
      have e11 := box_cell hnn 11
      have e12 := box_cell hnn 12
      have e13 := box_cell hnn 13
      have e14 := box_cell hnn 14
      have e15 := box_cell hnn 15
      have hln := box_lt hnn
      have hMn := OwnsM.nil (w4.alloc (.cells #[.int .i64 0, .int .i64 0, .int .i64 0, .int .i64 0, .int .i64 0, .int .i64 0, .int .i64 0, .int .i64 0, .bool false, .int .i64 0, .slice none 0 0, .int .i64 0, .int .i64 0, .slice none 0 0, .slice none 0 0, .slice none 0 0] 53)) (w.heap.size + 1)
      dsimp only [MsgV.arr, noMV, noSV, noFV, nilS10] at d0 d1 d2 d3 d4 d5 d6 d7 d8 d9 d10 d11 d12 d13 d14 d15 e0 e1 e2 e3 e4 e5 e6 e7 e8 e9 e10 e11 e12 e13 e14 e15
      go_upto_region 4 with fail
      generalize w4.alloc (.cells #[.int .i64 0, .int .i64 0, .int .i64 0, .int .i64 0, .int .i64 0, .int .i64 0, .int .i64 0, .int .i64 0, .bool false, .int .i64 0, .slice none 0 0, .int .i64 0, .int .i64 0, .slice none 0 0, .slice none 0 0, .slice none 0 0] 53) = W9 at *
      generalize w4.heap.size = nb at *
      go_wp2
      have hF := fillM (b := w.heap.size) (x0 := noMV) hbx 0 0 0 0 0 0 0 0 false 0 none 0 0 0 0 none 0 0 none 0 0 none 0 0 noF10 [] []
      have hR9 := ((((((((((((((((((((((((((((((((hRn).cell (b := w.heap.size) (by omega) (by omega) 0 (.int .i64 0))).cell (b := w.heap.size) (by omega) (by omega) 1 (.int .i64 0))).cell (b := w.heap.size) (by omega) (by omega) 2 (.int .i64 0))).cell (b := w.heap.size) (by omega) (by omega) 3 (.int .i64 0))).cell (b := w.heap.size) (by omega) (by omega) 4 (.int .i64 0))).cell (b := w.heap.size) (by omega) (by omega) 5 (.int .i64 0))).cell (b := w.heap.size) (by omega) (by omega) 6 (.int .i64 0))).cell (b := w.heap.size) (by omega) (by omega) 7 (.int .i64 0))).cell (b := w.heap.size) (by omega) (by omega) 8 (.bool false))).cell (b := w.heap.size) (by omega) (by omega) 9 (.int .i64 0))).cell (b := w.heap.size) (by omega) (by omega) 10 (.slice none 0 0))).cell (b := w.heap.size) (by omega) (by omega) 11 (.int .i64 0))).cell (b := w.heap.size) (by omega) (by omega) 12 (.int .i64 0))).cell (b := w.heap.size) (by omega) (by omega) 13 (.slice none 0 0))).cell (b := w.heap.size) (by omega) (by omega) 14 (.slice none 0 0))).cell (b := w.heap.size) (by omega) (by omega) 15 (.slice none 0 0))
      have hG9 := (grown_new (b := w.heap.size) (grown_new (b := w.heap.size) (grown_new (b := w.heap.size) (grown_new (b := w.heap.size) (grown_new (b := w.heap.size) (grown_new (b := w.heap.size) (grown_new (b := w.heap.size) (grown_new (b := w.heap.size) (grown_new (b := w.heap.size) (grown_new (b := w.heap.size) (grown_new (b := w.heap.size) (grown_new (b := w.heap.size) (grown_new (b := w.heap.size) (grown_new (b := w.heap.size) (grown_new (b := w.heap.size) (grown_new (b := w.heap.size) hGn (by omega) 0 (.int .i64 0)) (by omega) 1 (.int .i64 0)) (by omega) 2 (.int .i64 0)) (by omega) 3 (.int .i64 0)) (by omega) 4 (.int .i64 0)) (by omega) 5 (.int .i64 0)) (by omega) 6 (.int .i64 0)) (by omega) 7 (.int .i64 0)) (by omega) 8 (.bool false)) (by omega) 9 (.int .i64 0)) (by omega) 10 (.slice none 0 0)) (by omega) 11 (.int .i64 0)) (by omega) 12 (.int .i64 0)) (by omega) 13 (.slice none 0 0)) (by omega) 14 (.slice none 0 0)) (by omega) 15 (.slice none 0 0))
      have hO9 := ((((((((((((((((((((((((((((((((hMn).cell (b := w.heap.size) (by omega) 0 (.int .i64 0))).cell (b := w.heap.size) (by omega) 1 (.int .i64 0))).cell (b := w.heap.size) (by omega) 2 (.int .i64 0))).cell (b := w.heap.size) (by omega) 3 (.int .i64 0))).cell (b := w.heap.size) (by omega) 4 (.int .i64 0))).cell (b := w.heap.size) (by omega) 5 (.int .i64 0))).cell (b := w.heap.size) (by omega) 6 (.int .i64 0))).cell (b := w.heap.size) (by omega) 7 (.int .i64 0))).cell (b := w.heap.size) (by omega) 8 (.bool false))).cell (b := w.heap.size) (by omega) 9 (.int .i64 0))).cell (b := w.heap.size) (by omega) 10 (.slice none 0 0))).cell (b := w.heap.size) (by omega) 11 (.int .i64 0))).cell (b := w.heap.size) (by omega) 12 (.int .i64 0))).cell (b := w.heap.size) (by omega) 13 (.slice none 0 0))).cell (b := w.heap.size) (by omega) 14 (.slice none 0 0))).cell (b := w.heap.size) (by omega) 15 (.slice none 0 0))
      refine bodyPost_ret (ret_cell9 rfl _ _ w.heap.size _ _ _ _ rfl hF Tryz.underlying53 rfl (by kernel_rfl)) rfl ⟨noMV, ?_, ?_, hO9.mono (by omega), hR9.bel, hG9⟩
      · rw [HW.out]; rfl
      · rw [HW.out]; rfl
    | true => exact absurd HK2.out (by decide)

set_option maxRecDepth 100000 in
set_option maxHeartbeats 4000000 in
theorem wholeM_c (w0 w : World) (rb : Nat) (S : St) (h : Rdr w0 w rb S) (hk : ((pmsg10 S).2.1.isEmpty && !(pmsg10 S).2.2) = true) (hg : goodM10 (pmsg10 S).1 = true) :
    Calls Tryz.prog 44 #[.pointer (some ⟨rb, 0, none⟩), .func (.func 45) #[.pointer (some ⟨rb, 0, none⟩)] #[], .func (.func 17) #[] #[]] w fun e w' => ∃ X : MsgV, e = .returned (.tuple #[.agg X.arr, .int .i64 (whole10 goodM10 noM10 (pmsg10 S)).2]) ∧ X.m = (whole10 goodM10 noM10 (pmsg10 S)).1 ∧ OwnsM w' w.heap.size X ∧ Below w0.heap.size w0 w' ∧ w.grownBy w' (some rb) := by
  have hb1 : Below w.heap.size w (w.alloc (.cells #[.int .i64 0, .int .i64 0, .int .i64 0, .int .i64 0, .int .i64 0, .int .i64 0, .int .i64 0, .int .i64 0, .bool false, .int .i64 0, .slice none 0 0, .int .i64 0, .int .i64 0, .slice none 0 0, .slice none 0 0, .slice none 0 0] 53)) := (Below.refl _ _).alloc (Nat.le_refl _) _
  have hbox : MsgAt (w.alloc (.cells #[.int .i64 0, .int .i64 0, .int .i64 0, .int .i64 0, .int .i64 0, .int .i64 0, .int .i64 0, .int .i64 0, .bool false, .int .i64 0, .slice none 0 0, .int .i64 0, .int .i64 0, .slice none 0 0, .slice none 0 0, .slice none 0 0] 53)) w.heap.size noMV := heap_alloc_new w _
  have hz1 : (w.alloc (.cells #[.int .i64 0, .int .i64 0, .int .i64 0, .int .i64 0, .int .i64 0, .int .i64 0, .int .i64 0, .int .i64 0, .bool false, .int .i64 0, .slice none 0 0, .int .i64 0, .int .i64 0, .slice none 0 0, .slice none 0 0, .slice none 0 0] 53)).heap.size = w.heap.size + 1 := by simp
  have hrl := h.lt
  have HK : Hid (((pmsg10 S).2.1.isEmpty && !(pmsg10 S).2.2) = true) := hk
  have HK2 : Hid (goodM10 (pmsg10 S).1 = true) := hg
  clear hk hg
  have k1 := msgR_any w0 _ rb S (h.more hb1)
  have HW0 : Hid (whole10 goodM10 noM10 (pmsg10 S) = if ((pmsg10 S).2.1.isEmpty && !(pmsg10 S).2.2) && goodM10 (pmsg10 S).1 then ((pmsg10 S).1, 0) else (noM10, 8)) := rfl
  generalize whole10 goodM10 noM10 (pmsg10 S) = R at *
  generalize pmsg10 S = A at *
  obtain ⟨x0, S1⟩ := A
  dsimp only at k1 HW0 HK HK2
  clear h
  go_enter Tryz.func44, Tryz.ntmps44
  go_wp2_with fail
  generalize w.alloc (.cells #[.int .i64 0, .int .i64 0, .int .i64 0, .int .i64 0, .int .i64 0, .int .i64 0, .int .i64 0, .int .i64 0, .bool false, .int .i64 0, .slice none 0 0, .int .i64 0, .int .i64 0, .slice none 0 0, .slice none 0 0, .slice none 0 0] 53) = W1 at *
  refine k1.mono ?_
  rintro _ w2 ⟨X, rfl, hX, hM, hR2, hg2⟩
  have hbox2 : MsgAt w2 w.heap.size noMV := grown_box hg2 hbox (by omega)
  have hG2 := grown_after hb1 hg2
  have hsz2 := hg2.size
  have hb3 : Below w2.heap.size w2 (w2.alloc (.cells X.arr 53)) := (Below.refl _ _).alloc (Nat.le_refl _) _
  have hbn3 : MsgAt (w2.alloc (.cells X.arr 53)) w2.heap.size X := heap_alloc_new w2 _
  have hbox3 := box_below hbox2 hb3
  have hR3 := hR2.more hb3
  have hG3 := grown_trans hG2 (below_grownBy hb3)
  have hM3 := hM.below hb3
  have kg : Calls Tryz.prog 17 #[.agg X.arr] (w2.alloc (.cells X.arr 53)) fun e w' => e = .returned (.bool (goodM10 X.m)) ∧ Below (w2.alloc (.cells X.arr 53)).heap.size (w2.alloc (.cells X.arr 53)) w' := (fun W h => goodMsg_any X W h) _ hM3.fits
  have kf := hR3.fin
  have HX : Hid (X.m = x0) := hX
  rw [hX] at kg
  clear k1 hbox hR2 hg2 hbox2 hG2 hb3 hM hX
  generalize hgx : goodM10 x0 = gx at *
  have HGX : Hid (goodM10 x0 = gx) := hgx
  clear hgx
  obtain ⟨k, fr, too, t, i, lt, cm, ro, rej, hint, ⟨a1, b1, e1⟩, es, ⟨si, st, ⟨⟨p, n, c⟩, ⟨q, m, d⟩, f⟩, ⟨a, b0, e0⟩, dd⟩⟩ := X
  unfold MsgV.arr at *
  dsimp only at *
  go_wp2_with fail
  generalize w2.alloc (.cells #[.int .i64 k, .int .i64 fr, .int .i64 too, .int .i64 t, .int .i64 i, .int .i64 lt, .int .i64 cm, .int .i64 ro, .bool rej, .int .i64 hint, .slice a1 b1 e1, .int .i64 si, .int .i64 st, .slice p n c, .slice q m d, .slice a b0 e0] 53) = W3 at *
  generalize w2.heap.size = bx at *
  generalize hfi : (S1.1.isEmpty && !S1.2) = fi at *
  cases fi with
  | false => exact absurd HK.out (by decide)
  | true =>
    refine same_mono kf ?_
    clear kf
    replace hbn3 : MsgAt W3 bx ⟨k, fr, too, t, i, lt, cm, ro, rej, hint, ⟨a1, b1, e1⟩, es, ⟨si, st, ⟨⟨p, n, c⟩, ⟨q, m, d⟩, f⟩, ⟨a, b0, e0⟩, dd⟩⟩ := hbn3
    have c0 := box_cell hbn3 0
    have c1 := box_cell hbn3 1
    have c2 := box_cell hbn3 2
    have c3 := box_cell hbn3 3
    have c4 := box_cell hbn3 4
    have c5 := box_cell hbn3 5
    have c6 := box_cell hbn3 6
    have c7 := box_cell hbn3 7
    have c8 := box_cell hbn3 8
    have c9 := box_cell hbn3 9
    have c10 := box_cell hbn3 10
    have c11 := box_cell hbn3 11
    have c12 := box_cell hbn3 12
    have c13 := box_cell hbn3 13
    have c14 := box_cell hbn3 14
    have c15 := box_cell hbn3 15
    have hlx := box_lt hbn3
    dsimp only [MsgV.arr] at c0 c1 c2 c3 c4 c5 c6 c7 c8 c9 c10 c11 c12 c13 c14 c15
    go_wp2_with fail
    refine kg.mono ?_
    rintro _ w4 ⟨rfl, hb4⟩
    have hbx4 : MsgAt w4 bx ⟨k, fr, too, t, i, lt, cm, ro, rej, hint, ⟨a1, b1, e1⟩, es, ⟨si, st, ⟨⟨p, n, c⟩, ⟨q, m, d⟩, f⟩, ⟨a, b0, e0⟩, dd⟩⟩ := box_below hbn3 hb4
    have hbox4 : MsgAt w4 w.heap.size noMV := box_below hbox3 hb4
    have hR4 := hR3.more hb4
    have hG4 := grown_trans hG3 (below_grownBy hb4)
    have hM4 := hM3.below hb4
    clear kg hbn3 hbox3 hR3 hG3 hM3 hb4 c0 c1 c2 c3 c4 c5 c6 c7 c8 c9 c10 c11 c12 c13 c14 c15 hlx
    cases gx with
    | false => exact absurd HK2.out (by decide)
    | true =>
      have HW : Hid (R = (x0, 0)) := by rw [Hid, HW0.out]; rfl
      clear HW0
      have c0 := box_cell hbx4 0
      have c1 := box_cell hbx4 1
      have c2 := box_cell hbx4 2
      have c3 := box_cell hbx4 3
      have c4 := box_cell hbx4 4
      have c5 := box_cell hbx4 5
      have c6 := box_cell hbx4 6
      have c7 := box_cell hbx4 7
      have c8 := box_cell hbx4 8
      have c9 := box_cell hbx4 9
      have c10 := box_cell hbx4 10
      have c11 := box_cell hbx4 11
      have c12 := box_cell hbx4 12
      have c13 := box_cell hbx4 13
      have c14 := box_cell hbx4 14
      have c15 := box_cell hbx4 15
      have d0 := box_cell hbox4 0
      have d1 := box_cell hbox4 1
      have d2 := box_cell hbox4 2
      have d3 := box_cell hbox4 3
      have d4 := box_cell hbox4 4
      have d5 := box_cell hbox4 5
      have d6 := box_cell hbox4 6
      have d7 := box_cell hbox4 7
      have d8 := box_cell hbox4 8
      have d9 := box_cell hbox4 9
      have d10 := box_cell hbox4 10
      have d11 := box_cell hbox4 11
      have d12 := box_cell hbox4 12
      have d13 := box_cell hbox4 13
      have d14 := box_cell hbox4 14
      have d15 := box_cell hbox4 15
      dsimp only [MsgV.arr, noMV, noSV, noFV, nilS10] at c0 c1 c2 c3 c4 c5 c6 c7 c8 c9 c10 c11 c12 c13 c14 c15 d0 d1 d2 d3 d4 d5 d6 d7 d8 d9 d10 d11 d12 d13 d14 d15
      have hlx := box_lt hbx4
      have hlr := box_lt hbox4
      have fb := frozen9 hbox4
      go_wp2
      have hF := fillM (b := w.heap.size) (x0 := noMV) hbox4 k fr too t i lt cm ro rej hint a1 b1 e1 si st p n c q m d a b0 e0 f dd es
      have hR9 := ((((((((((((((((((((((((((((((((hR4).cell (b := w.heap.size) (by omega) (by omega) 0 (.int .i64 k))).cell (b := w.heap.size) (by omega) (by omega) 1 (.int .i64 fr))).cell (b := w.heap.size) (by omega) (by omega) 2 (.int .i64 too))).cell (b := w.heap.size) (by omega) (by omega) 3 (.int .i64 t))).cell (b := w.heap.size) (by omega) (by omega) 4 (.int .i64 i))).cell (b := w.heap.size) (by omega) (by omega) 5 (.int .i64 lt))).cell (b := w.heap.size) (by omega) (by omega) 6 (.int .i64 cm))).cell (b := w.heap.size) (by omega) (by omega) 7 (.int .i64 ro))).cell (b := w.heap.size) (by omega) (by omega) 8 (.bool rej))).cell (b := w.heap.size) (by omega) (by omega) 9 (.int .i64 hint))).cell (b := w.heap.size) (by omega) (by omega) 10 (.slice a1 b1 e1))).cell (b := w.heap.size) (by omega) (by omega) 11 (.int .i64 si))).cell (b := w.heap.size) (by omega) (by omega) 12 (.int .i64 st))).cell (b := w.heap.size) (by omega) (by omega) 13 (.slice p n c))).cell (b := w.heap.size) (by omega) (by omega) 14 (.slice q m d))).cell (b := w.heap.size) (by omega) (by omega) 15 (.slice a b0 e0))
      have hG9 := (grown_new (b := w.heap.size) (grown_new (b := w.heap.size) (grown_new (b := w.heap.size) (grown_new (b := w.heap.size) (grown_new (b := w.heap.size) (grown_new (b := w.heap.size) (grown_new (b := w.heap.size) (grown_new (b := w.heap.size) (grown_new (b := w.heap.size) (grown_new (b := w.heap.size) (grown_new (b := w.heap.size) (grown_new (b := w.heap.size) (grown_new (b := w.heap.size) (grown_new (b := w.heap.size) (grown_new (b := w.heap.size) (grown_new (b := w.heap.size) hG4 (by omega) 0 (.int .i64 k)) (by omega) 1 (.int .i64 fr)) (by omega) 2 (.int .i64 too)) (by omega) 3 (.int .i64 t)) (by omega) 4 (.int .i64 i)) (by omega) 5 (.int .i64 lt)) (by omega) 6 (.int .i64 cm)) (by omega) 7 (.int .i64 ro)) (by omega) 8 (.bool rej)) (by omega) 9 (.int .i64 hint)) (by omega) 10 (.slice a1 b1 e1)) (by omega) 11 (.int .i64 si)) (by omega) 12 (.int .i64 st)) (by omega) 13 (.slice p n c)) (by omega) 14 (.slice q m d)) (by omega) 15 (.slice a b0 e0))
      have hO9 := ((((((((((((((((((((((((((((((((hM4).cell (b := w.heap.size) (by omega) 0 (.int .i64 k))).cell (b := w.heap.size) (by omega) 1 (.int .i64 fr))).cell (b := w.heap.size) (by omega) 2 (.int .i64 too))).cell (b := w.heap.size) (by omega) 3 (.int .i64 t))).cell (b := w.heap.size) (by omega) 4 (.int .i64 i))).cell (b := w.heap.size) (by omega) 5 (.int .i64 lt))).cell (b := w.heap.size) (by omega) 6 (.int .i64 cm))).cell (b := w.heap.size) (by omega) 7 (.int .i64 ro))).cell (b := w.heap.size) (by omega) 8 (.bool rej))).cell (b := w.heap.size) (by omega) 9 (.int .i64 hint))).cell (b := w.heap.size) (by omega) 10 (.slice a1 b1 e1))).cell (b := w.heap.size) (by omega) 11 (.int .i64 si))).cell (b := w.heap.size) (by omega) 12 (.int .i64 st))).cell (b := w.heap.size) (by omega) 13 (.slice p n c))).cell (b := w.heap.size) (by omega) 14 (.slice q m d))).cell (b := w.heap.size) (by omega) 15 (.slice a b0 e0))
      refine bodyPost_ret (ret_cell9 rfl _ _ w.heap.size _ _ _ _ rfl hF Tryz.underlying53 rfl (by kernel_rfl)) rfl ⟨⟨k, fr, too, t, i, lt, cm, ro, rej, hint, ⟨a1, b1, e1⟩, es, ⟨si, st, ⟨⟨p, n, c⟩, ⟨q, m, d⟩, f⟩, ⟨a, b0, e0⟩, dd⟩⟩, ?_, ?_, hO9.mono (by omega), hR9.bel, hG9⟩
      · rw [HW.out]; rfl
      · rw [HW.out]; exact HX.out

theorem wholeM_any (w0 w : World) (rb : Nat) (S : St) (h : Rdr w0 w rb S) :
    Calls Tryz.prog 44 #[.pointer (some ⟨rb, 0, none⟩), .func (.func 45) #[.pointer (some ⟨rb, 0, none⟩)] #[], .func (.func 17) #[] #[]] w fun e w' => ∃ X : MsgV, e = .returned (.tuple #[.agg X.arr, .int .i64 (whole10 goodM10 noM10 (pmsg10 S)).2]) ∧ X.m = (whole10 goodM10 noM10 (pmsg10 S)).1 ∧ OwnsM w' w.heap.size X ∧ Below w0.heap.size w0 w' ∧ w.grownBy w' (some rb) := by
  cases hk : ((pmsg10 S).2.1.isEmpty && !(pmsg10 S).2.2) with
  | false => exact wholeM_a w0 w rb S h hk
  | true =>
    cases hg : goodM10 (pmsg10 S).1 with
    | false => exact wholeM_b w0 w rb S h hk hg
    | true => exact wholeM_c w0 w rb S h hk hg

set_option maxRecDepth 100000 in
set_option maxHeartbeats 4000000 in
theorem readM_any (v : Value) (xs : List Int) (w : World) (hv : Has w v xs) (hB : IsB xs) (hl : xs.length ≤ 1073741824) :
    Calls Tryz.prog 15 #[v] w fun e w' => ∃ X : MsgV, e = .returned (.tuple #[.agg X.arr, .int .i64 (whole10 goodM10 noM10 (pmsg10 (xs, false))).2]) ∧ X.m = (whole10 goodM10 noM10 (pmsg10 (xs, false))).1 ∧ FitsM w' X ∧ Below w.heap.size w w' := by
  have hmf : ∀ (fn : Fn) (first cap : Array Value) (w : World), (Instr.makeFunc fn first cap).run Tryz.prog w = .ok (.func fn first cap) w := fun _ _ _ _ => rfl
  have hb1 : Below w.heap.size w (w.alloc (.cells #[.int .i64 0, .int .i64 0, .int .i64 0, .int .i64 0, .int .i64 0, .int .i64 0, .int .i64 0, .int .i64 0, .bool false, .int .i64 0, .slice none 0 0, .int .i64 0, .int .i64 0, .slice none 0 0, .slice none 0 0, .slice none 0 0] 53)) := (Below.refl _ _).alloc (Nat.le_refl _) _
  have hbox : MsgAt (w.alloc (.cells #[.int .i64 0, .int .i64 0, .int .i64 0, .int .i64 0, .int .i64 0, .int .i64 0, .int .i64 0, .int .i64 0, .bool false, .int .i64 0, .slice none 0 0, .int .i64 0, .int .i64 0, .slice none 0 0, .slice none 0 0, .slice none 0 0] 53)) w.heap.size noMV := heap_alloc_new w _
  have hz1 : (w.alloc (.cells #[.int .i64 0, .int .i64 0, .int .i64 0, .int .i64 0, .int .i64 0, .int .i64 0, .int .i64 0, .int .i64 0, .bool false, .int .i64 0, .slice none 0 0, .int .i64 0, .int .i64 0, .slice none 0 0, .slice none 0 0, .slice none 0 0] 53)).heap.size = w.heap.size + 1 := by simp
  have hR := Rdr.make hb1 hv hB hl 103
  have hsl : ∃ p n c, v = .slice p n c := by
    obtain ⟨p, c, hp, -⟩ := hv
    exact ⟨p, _, c, hp⟩
  have k1 := readerOf_any v (w.alloc (.cells #[.int .i64 0, .int .i64 0, .int .i64 0, .int .i64 0, .int .i64 0, .int .i64 0, .int .i64 0, .int .i64 0, .bool false, .int .i64 0, .slice none 0 0, .int .i64 0, .int .i64 0, .slice none 0 0, .slice none 0 0, .slice none 0 0] 53)) hsl
  have hb2 : Below (w.alloc (.cells #[.int .i64 0, .int .i64 0, .int .i64 0, .int .i64 0, .int .i64 0, .int .i64 0, .int .i64 0, .int .i64 0, .bool false, .int .i64 0, .slice none 0 0, .int .i64 0, .int .i64 0, .slice none 0 0, .slice none 0 0, .slice none 0 0] 53)).heap.size (w.alloc (.cells #[.int .i64 0, .int .i64 0, .int .i64 0, .int .i64 0, .int .i64 0, .int .i64 0, .int .i64 0, .int .i64 0, .bool false, .int .i64 0, .slice none 0 0, .int .i64 0, .int .i64 0, .slice none 0 0, .slice none 0 0, .slice none 0 0] 53)) ((w.alloc (.cells #[.int .i64 0, .int .i64 0, .int .i64 0, .int .i64 0, .int .i64 0, .int .i64 0, .int .i64 0, .int .i64 0, .bool false, .int .i64 0, .slice none 0 0, .int .i64 0, .int .i64 0, .slice none 0 0, .slice none 0 0, .slice none 0 0] 53)).alloc (.cells #[v, .bool false] 103)) := (Below.refl _ _).alloc (Nat.le_refl _) _
  have hbox2 : MsgAt _ w.heap.size noMV := box_below hbox hb2
  have hwz : w.heap.size < ((w.alloc (.cells #[.int .i64 0, .int .i64 0, .int .i64 0, .int .i64 0, .int .i64 0, .int .i64 0, .int .i64 0, .int .i64 0, .bool false, .int .i64 0, .slice none 0 0, .int .i64 0, .int .i64 0, .slice none 0 0, .slice none 0 0, .slice none 0 0] 53)).alloc (.cells #[v, .bool false] 103)).heap.size := by simp; omega
  have k2 := wholeM_any w _ _ (xs, false) hR
  generalize whole10 goodM10 noM10 (pmsg10 (xs, false)) = R at *
  obtain ⟨x0, err⟩ := R
  dsimp only at k2
  obtain ⟨p0, n0, c0_, rfl⟩ := hsl
  rw [hz1] at k2 k1
  clear hR hv hB hbox hb2
  go_enter Tryz.func15, Tryz.ntmps15
  go_wp2_with fail
  refine k1.mono ?_
  rintro _ w2 ⟨rfl, rfl⟩
  clear k1
  go_wp2_with fail
  generalize (w.alloc (.cells #[.int .i64 0, .int .i64 0, .int .i64 0, .int .i64 0, .int .i64 0, .int .i64 0, .int .i64 0, .int .i64 0, .bool false, .int .i64 0, .slice none 0 0, .int .i64 0, .int .i64 0, .slice none 0 0, .slice none 0 0, .slice none 0 0] 53)).alloc (.cells #[.slice p0 n0 c0_, .bool false] 103) = W2 at *
  refine k2.mono ?_
  rintro _ w3 ⟨X, rfl, hX, hM, hb3, hg3⟩
  have hbox3 : MsgAt w3 w.heap.size noMV := grown_box hg3 hbox2 (by omega)
  have HX : Hid (X.m = x0) := hX
  clear k2 hbox2 hX
  obtain ⟨k, fr, too, t, i, lt, cm, ro, rej, hint, ⟨a1, b1, e1⟩, es, ⟨si, st, ⟨⟨p, n, c⟩, ⟨q, m, d⟩, f⟩, ⟨a, b0, e0⟩, dd⟩⟩ := X
  unfold MsgV.arr
  dsimp only
  have d0 := box_cell hbox3 0
  have d1 := box_cell hbox3 1
  have d2 := box_cell hbox3 2
  have d3 := box_cell hbox3 3
  have d4 := box_cell hbox3 4
  have d5 := box_cell hbox3 5
  have d6 := box_cell hbox3 6
  have d7 := box_cell hbox3 7
  have d8 := box_cell hbox3 8
  have d9 := box_cell hbox3 9
  have d10 := box_cell hbox3 10
  have d11 := box_cell hbox3 11
  have d12 := box_cell hbox3 12
  have d13 := box_cell hbox3 13
  have d14 := box_cell hbox3 14
  have d15 := box_cell hbox3 15
  dsimp only [MsgV.arr, noMV, noSV, noFV, nilS10] at d0 d1 d2 d3 d4 d5 d6 d7 d8 d9 d10 d11 d12 d13 d14 d15
  have hlr := box_lt hbox3
  have fb := frozen9 hbox3
  go_wp2
  have hF := fillM (b := w.heap.size) (x0 := noMV) hbox3 k fr too t i lt cm ro rej hint a1 b1 e1 si st p n c q m d a b0 e0 f dd es
  have hO9 := ((((((((((((((((((((((((((((((((hM).cell (b := w.heap.size) (by omega) 0 (.int .i64 k))).cell (b := w.heap.size) (by omega) 1 (.int .i64 fr))).cell (b := w.heap.size) (by omega) 2 (.int .i64 too))).cell (b := w.heap.size) (by omega) 3 (.int .i64 t))).cell (b := w.heap.size) (by omega) 4 (.int .i64 i))).cell (b := w.heap.size) (by omega) 5 (.int .i64 lt))).cell (b := w.heap.size) (by omega) 6 (.int .i64 cm))).cell (b := w.heap.size) (by omega) 7 (.int .i64 ro))).cell (b := w.heap.size) (by omega) 8 (.bool rej))).cell (b := w.heap.size) (by omega) 9 (.int .i64 hint))).cell (b := w.heap.size) (by omega) 10 (.slice a1 b1 e1))).cell (b := w.heap.size) (by omega) 11 (.int .i64 si))).cell (b := w.heap.size) (by omega) 12 (.int .i64 st))).cell (b := w.heap.size) (by omega) 13 (.slice p n c))).cell (b := w.heap.size) (by omega) 14 (.slice q m d))).cell (b := w.heap.size) (by omega) 15 (.slice a b0 e0))
  have hB9 : Below w.heap.size w _ := ((((((((((((((((hb3.setCell (p := ⟨w.heap.size, 0, none⟩) (Nat.le_refl _) (.int .i64 k)).setCell (p := ⟨w.heap.size, 1, none⟩) (Nat.le_refl _) (.int .i64 fr)).setCell (p := ⟨w.heap.size, 2, none⟩) (Nat.le_refl _) (.int .i64 too)).setCell (p := ⟨w.heap.size, 3, none⟩) (Nat.le_refl _) (.int .i64 t)).setCell (p := ⟨w.heap.size, 4, none⟩) (Nat.le_refl _) (.int .i64 i)).setCell (p := ⟨w.heap.size, 5, none⟩) (Nat.le_refl _) (.int .i64 lt)).setCell (p := ⟨w.heap.size, 6, none⟩) (Nat.le_refl _) (.int .i64 cm)).setCell (p := ⟨w.heap.size, 7, none⟩) (Nat.le_refl _) (.int .i64 ro)).setCell (p := ⟨w.heap.size, 8, none⟩) (Nat.le_refl _) (.bool rej)).setCell (p := ⟨w.heap.size, 9, none⟩) (Nat.le_refl _) (.int .i64 hint)).setCell (p := ⟨w.heap.size, 10, none⟩) (Nat.le_refl _) (.slice a1 b1 e1)).setCell (p := ⟨w.heap.size, 11, none⟩) (Nat.le_refl _) (.int .i64 si)).setCell (p := ⟨w.heap.size, 12, none⟩) (Nat.le_refl _) (.int .i64 st)).setCell (p := ⟨w.heap.size, 13, none⟩) (Nat.le_refl _) (.slice p n c)).setCell (p := ⟨w.heap.size, 14, none⟩) (Nat.le_refl _) (.slice q m d)).setCell (p := ⟨w.heap.size, 15, none⟩) (Nat.le_refl _) (.slice a b0 e0))
  exact bodyPost_ret (ret_cell9 rfl _ _ w.heap.size _ _ _ _ rfl hF Tryz.underlying53 rfl (by kernel_rfl)) rfl ⟨⟨k, fr, too, t, i, lt, cm, ro, rej, hint, ⟨a1, b1, e1⟩, es, ⟨si, st, ⟨⟨p, n, c⟩, ⟨q, m, d⟩, f⟩, ⟨a, b0, e0⟩, dd⟩⟩, rfl, HX.out, hO9.fits, hB9⟩
end Go.Proofs.YtnbaoimjcaeeaaaGreat
