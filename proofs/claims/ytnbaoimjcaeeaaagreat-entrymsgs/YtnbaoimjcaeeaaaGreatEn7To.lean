import Derived.Test.YtnbaoimjcaeeaaaGreatEo6To
import Derived.Test.YtnbaoimjcaeeaaaGreatEn3To
import Derived.Test.YtnbaoimjcaeeaaaGreatCmGTo
/-
  Contracts: entry.whole and what reads of bytes.
-/
namespace Go.Proofs.YtnbaoimjcaeeaaaGreat
open Go.RowKit Go.Shelf

set_option maxRecDepth 100000 in
set_option maxHeartbeats 4000000 in
theorem wholeS_any (w0 w : World) (rb : Nat) (S : St) (h : Rdr w0 w rb S) :
    Calls Tryz.prog 37 #[.pointer (some ⟨rb, 0, none⟩), .func (.func 38) #[.pointer (some ⟨rb, 0, none⟩)] #[], .func (.func 39) #[] #[]] w fun e w' => ∃ X : SnapV, e = .returned (.tuple #[.agg X.arr, .int .i64 (whole10 goodS10 noS10 (snap10 9 S)).2]) ∧ X.s = (whole10 goodS10 noS10 (snap10 9 S)).1 ∧ OwnsS w' w.heap.size X ∧ Below w0.heap.size w0 w' ∧ w.grownBy w' (some rb) := by
  have hb1 : Below w.heap.size w (w.alloc (.cells #[.int .i64 0, .int .i64 0, .slice none 0 0, .slice none 0 0, .slice none 0 0] 43)) := (Below.refl _ _).alloc (Nat.le_refl _) _
  have hbox : SnapAt (w.alloc (.cells #[.int .i64 0, .int .i64 0, .slice none 0 0, .slice none 0 0, .slice none 0 0] 43)) w.heap.size noSV := heap_alloc_new w _
  have hz1 : (w.alloc (.cells #[.int .i64 0, .int .i64 0, .slice none 0 0, .slice none 0 0, .slice none 0 0] 43)).heap.size = w.heap.size + 1 := by simp
  have hrl := h.lt
  have k1 := snapR_any w0 _ rb S (h.more hb1)
  have HW0 : Hid (whole10 goodS10 noS10 (snap10 9 S) = if ((snap10 9 S).2.1.isEmpty && !(snap10 9 S).2.2) && goodS10 (snap10 9 S).1 then ((snap10 9 S).1, 0) else (noS10, 8)) := rfl
  generalize whole10 goodS10 noS10 (snap10 9 S) = R at *
  generalize snap10 9 S = A at *
  obtain ⟨x0, S1⟩ := A
  dsimp only at k1 HW0
  clear h
  go_enter Tryz.func37, Tryz.ntmps37
  go_wp2_with fail
  generalize w.alloc (.cells #[.int .i64 0, .int .i64 0, .slice none 0 0, .slice none 0 0, .slice none 0 0] 43) = W1 at *
  refine k1.mono ?_
  rintro _ w2 ⟨X, rfl, hX, hM, hR2, hg2⟩
  have hbox2 : SnapAt w2 w.heap.size noSV := grown_box hg2 hbox (by omega)
  have hG2 := grown_after hb1 hg2
  have hsz2 := hg2.size
  have hb3 : Below w2.heap.size w2 (w2.alloc (.cells X.arr 43)) := (Below.refl _ _).alloc (Nat.le_refl _) _
  have hbn3 : SnapAt (w2.alloc (.cells X.arr 43)) w2.heap.size X := heap_alloc_new w2 _
  have hbox3 := box_below hbox2 hb3
  have hR3 := hR2.more hb3
  have hG3 := grown_trans hG2 (below_grownBy hb3)
  have hM3 := hM.below hb3
  have kg : Calls Tryz.prog 39 #[.agg X.arr] (w2.alloc (.cells X.arr 43)) fun e w' => e = .returned (.bool (goodS10 X.s)) ∧ Below (w2.alloc (.cells X.arr 43)).heap.size (w2.alloc (.cells X.arr 43)) w' := (fun W h => goodSnap_any X W h) _ hM3.fits
  have kf := hR3.fin
  have HX : Hid (X.s = x0) := hX
  rw [hX] at kg
  clear k1 hbox hR2 hg2 hbox2 hG2 hb3 hM hX
  generalize hgx : goodS10 x0 = gx at *
  have HGX : Hid (goodS10 x0 = gx) := hgx
  clear hgx
  obtain ⟨si, st, ⟨⟨p, n, c⟩, ⟨q, m, d⟩, f⟩, ⟨a, b0, e0⟩, dd⟩ := X
  unfold SnapV.arr at *
  dsimp only at *
  go_wp2_with fail
  generalize w2.alloc (.cells #[.int .i64 si, .int .i64 st, .slice p n c, .slice q m d, .slice a b0 e0] 43) = W3 at *
  generalize w2.heap.size = bx at *
  generalize hfi : (S1.1.isEmpty && !S1.2) = fi at *
  cases fi with
  | false =>
    have HW : Hid (R = (noS10, 8)) := by rw [Hid, HW0.out]; rfl
    clear HW0
    refine same_mono kf ?_
    have hbn : Below W3.heap.size W3 (W3.alloc (.cells #[.int .i64 0, .int .i64 0, .slice none 0 0, .slice none 0 0, .slice none 0 0] 43)) := (Below.refl _ _).alloc (Nat.le_refl _) _
    have hbx : SnapAt (W3.alloc (.cells #[.int .i64 0, .int .i64 0, .slice none 0 0, .slice none 0 0, .slice none 0 0] 43)) w.heap.size noSV := box_below hbox3 hbn
    have hnn : SnapAt (W3.alloc (.cells #[.int .i64 0, .int .i64 0, .slice none 0 0, .slice none 0 0, .slice none 0 0] 43)) W3.heap.size noSV := heap_alloc_new W3 _
    have hRn := hR3.more hbn
    have hGn := grown_trans hG3 (below_grownBy hbn)
    have d0 := box_cell hbx 0
    have d1 := box_cell hbx 1
    have d2 := box_cell hbx 2
    have d3 := box_cell hbx 3
    have d4 := box_cell hbx 4
    have fb := frozen9 hbx
    have hlr := box_lt hbx
    have e0 := box_cell hnn 0
    have e1 := box_cell hnn 1
    have e2 := box_cell hnn 2
    have e3 := box_cell hnn 3
    have e4 := box_cell hnn 4
    have hln := box_lt hnn
    have hMn := OwnsS.nil (W3.alloc (.cells #[.int .i64 0, .int .i64 0, .slice none 0 0, .slice none 0 0, .slice none 0 0] 43)) (w.heap.size + 1)
    dsimp only [SnapV.arr, noSV, noFV, nilS10] at d0 d1 d2 d3 d4 e0 e1 e2 e3 e4
    go_upto_region 4 with fail
    generalize W3.alloc (.cells #[.int .i64 0, .int .i64 0, .slice none 0 0, .slice none 0 0, .slice none 0 0] 43) = W9 at *
    generalize W3.heap.size = nb at *
    go_wp2
    have hF := fillS (b := w.heap.size) (x0 := noSV) hbx 0 0 none 0 0 none 0 0 none 0 0 noF10 []
    have hR9 := ((((((((((hRn).cell (b := w.heap.size) (by omega) (by omega) 0 (.int .i64 0))).cell (b := w.heap.size) (by omega) (by omega) 1 (.int .i64 0))).cell (b := w.heap.size) (by omega) (by omega) 2 (.slice none 0 0))).cell (b := w.heap.size) (by omega) (by omega) 3 (.slice none 0 0))).cell (b := w.heap.size) (by omega) (by omega) 4 (.slice none 0 0))
    have hG9 := (grown_new (b := w.heap.size) (grown_new (b := w.heap.size) (grown_new (b := w.heap.size) (grown_new (b := w.heap.size) (grown_new (b := w.heap.size) hGn (by omega) 0 (.int .i64 0)) (by omega) 1 (.int .i64 0)) (by omega) 2 (.slice none 0 0)) (by omega) 3 (.slice none 0 0)) (by omega) 4 (.slice none 0 0))
    have hO9 := ((((((((((hMn).cell (b := w.heap.size) (by omega) 0 (.int .i64 0))).cell (b := w.heap.size) (by omega) 1 (.int .i64 0))).cell (b := w.heap.size) (by omega) 2 (.slice none 0 0))).cell (b := w.heap.size) (by omega) 3 (.slice none 0 0))).cell (b := w.heap.size) (by omega) 4 (.slice none 0 0))
    refine bodyPost_ret (ret_cell9 rfl _ _ w.heap.size _ _ _ _ rfl hF Tryz.underlying43 rfl (by kernel_rfl)) rfl ⟨noSV, ?_, ?_, hO9.mono (by omega), hR9.bel, hG9⟩
    · rw [HW.out]; rfl
    · rw [HW.out]; rfl
  | true =>
    refine same_mono kf ?_
    clear kf
    replace hbn3 : SnapAt W3 bx ⟨si, st, ⟨⟨p, n, c⟩, ⟨q, m, d⟩, f⟩, ⟨a, b0, e0⟩, dd⟩ := hbn3
    have c0 := box_cell hbn3 0
    have c1 := box_cell hbn3 1
    have c2 := box_cell hbn3 2
    have c3 := box_cell hbn3 3
    have c4 := box_cell hbn3 4
    have hlx := box_lt hbn3
    dsimp only [SnapV.arr] at c0 c1 c2 c3 c4
    go_wp2_with fail
    refine kg.mono ?_
    rintro _ w4 ⟨rfl, hb4⟩
    have hbx4 : SnapAt w4 bx ⟨si, st, ⟨⟨p, n, c⟩, ⟨q, m, d⟩, f⟩, ⟨a, b0, e0⟩, dd⟩ := box_below hbn3 hb4
    have hbox4 : SnapAt w4 w.heap.size noSV := box_below hbox3 hb4
    have hR4 := hR3.more hb4
    have hG4 := grown_trans hG3 (below_grownBy hb4)
    have hM4 := hM3.below hb4
    clear kg hbn3 hbox3 hR3 hG3 hM3 hb4 c0 c1 c2 c3 c4 hlx
    cases gx with
    | false =>
      have HW : Hid (R = (noS10, 8)) := by rw [Hid, HW0.out]; rfl
      clear HW0
      have hbn : Below w4.heap.size w4 (w4.alloc (.cells #[.int .i64 0, .int .i64 0, .slice none 0 0, .slice none 0 0, .slice none 0 0] 43)) := (Below.refl _ _).alloc (Nat.le_refl _) _
      have hbx : SnapAt (w4.alloc (.cells #[.int .i64 0, .int .i64 0, .slice none 0 0, .slice none 0 0, .slice none 0 0] 43)) w.heap.size noSV := box_below hbox4 hbn
      have hnn : SnapAt (w4.alloc (.cells #[.int .i64 0, .int .i64 0, .slice none 0 0, .slice none 0 0, .slice none 0 0] 43)) w4.heap.size noSV := heap_alloc_new w4 _
      have hRn := hR4.more hbn
      have hGn := grown_trans hG4 (below_grownBy hbn)
      have d0 := box_cell hbx 0
      have d1 := box_cell hbx 1
      have d2 := box_cell hbx 2
      have d3 := box_cell hbx 3
      have d4 := box_cell hbx 4
      have fb := frozen9 hbx
      have hlr := box_lt hbx
      have e0 := box_cell hnn 0
      have e1 := box_cell hnn 1
      have e2 := box_cell hnn 2
      have e3 := box_cell hnn 3
      have e4 := box_cell hnn 4
      have hln := box_lt hnn
      have hMn := OwnsS.nil (w4.alloc (.cells #[.int .i64 0, .int .i64 0, .slice none 0 0, .slice none 0 0, .slice none 0 0] 43)) (w.heap.size + 1)
      dsimp only [SnapV.arr, noSV, noFV, nilS10] at d0 d1 d2 d3 d4 e0 e1 e2 e3 e4
      go_upto_region 4 with fail
      generalize w4.alloc (.cells #[.int .i64 0, .int .i64 0, .slice none 0 0, .slice none 0 0, .slice none 0 0] 43) = W9 at *
      generalize w4.heap.size = nb at *
      go_wp2
      have hF := fillS (b := w.heap.size) (x0 := noSV) hbx 0 0 none 0 0 none 0 0 none 0 0 noF10 []
      have hR9 := ((((((((((hRn).cell (b := w.heap.size) (by omega) (by omega) 0 (.int .i64 0))).cell (b := w.heap.size) (by omega) (by omega) 1 (.int .i64 0))).cell (b := w.heap.size) (by omega) (by omega) 2 (.slice none 0 0))).cell (b := w.heap.size) (by omega) (by omega) 3 (.slice none 0 0))).cell (b := w.heap.size) (by omega) (by omega) 4 (.slice none 0 0))
      have hG9 := (grown_new (b := w.heap.size) (grown_new (b := w.heap.size) (grown_new (b := w.heap.size) (grown_new (b := w.heap.size) (grown_new (b := w.heap.size) hGn (by omega) 0 (.int .i64 0)) (by omega) 1 (.int .i64 0)) (by omega) 2 (.slice none 0 0)) (by omega) 3 (.slice none 0 0)) (by omega) 4 (.slice none 0 0))
      have hO9 := ((((((((((hMn).cell (b := w.heap.size) (by omega) 0 (.int .i64 0))).cell (b := w.heap.size) (by omega) 1 (.int .i64 0))).cell (b := w.heap.size) (by omega) 2 (.slice none 0 0))).cell (b := w.heap.size) (by omega) 3 (.slice none 0 0))).cell (b := w.heap.size) (by omega) 4 (.slice none 0 0))
      refine bodyPost_ret (ret_cell9 rfl _ _ w.heap.size _ _ _ _ rfl hF Tryz.underlying43 rfl (by kernel_rfl)) rfl ⟨noSV, ?_, ?_, hO9.mono (by omega), hR9.bel, hG9⟩
      · rw [HW.out]; rfl
      · rw [HW.out]; rfl
    | true =>
      have HW : Hid (R = (x0, 0)) := by rw [Hid, HW0.out]; rfl
      clear HW0
      have c0 := box_cell hbx4 0
      have c1 := box_cell hbx4 1
      have c2 := box_cell hbx4 2
      have c3 := box_cell hbx4 3
      have c4 := box_cell hbx4 4
      have d0 := box_cell hbox4 0
      have d1 := box_cell hbox4 1
      have d2 := box_cell hbox4 2
      have d3 := box_cell hbox4 3
      have d4 := box_cell hbox4 4
      dsimp only [SnapV.arr, noSV, noFV, nilS10] at c0 c1 c2 c3 c4 d0 d1 d2 d3 d4
      have hlx := box_lt hbx4
      have hlr := box_lt hbox4
      have fb := frozen9 hbox4
      go_wp2
      have hF := fillS (b := w.heap.size) (x0 := noSV) hbox4 si st p n c q m d a b0 e0 f dd
      have hR9 := ((((((((((hR4).cell (b := w.heap.size) (by omega) (by omega) 0 (.int .i64 si))).cell (b := w.heap.size) (by omega) (by omega) 1 (.int .i64 st))).cell (b := w.heap.size) (by omega) (by omega) 2 (.slice p n c))).cell (b := w.heap.size) (by omega) (by omega) 3 (.slice q m d))).cell (b := w.heap.size) (by omega) (by omega) 4 (.slice a b0 e0))
      have hG9 := (grown_new (b := w.heap.size) (grown_new (b := w.heap.size) (grown_new (b := w.heap.size) (grown_new (b := w.heap.size) (grown_new (b := w.heap.size) hG4 (by omega) 0 (.int .i64 si)) (by omega) 1 (.int .i64 st)) (by omega) 2 (.slice p n c)) (by omega) 3 (.slice q m d)) (by omega) 4 (.slice a b0 e0))
      have hO9 := ((((((((((hM4).cell (b := w.heap.size) (by omega) 0 (.int .i64 si))).cell (b := w.heap.size) (by omega) 1 (.int .i64 st))).cell (b := w.heap.size) (by omega) 2 (.slice p n c))).cell (b := w.heap.size) (by omega) 3 (.slice q m d))).cell (b := w.heap.size) (by omega) 4 (.slice a b0 e0))
      refine bodyPost_ret (ret_cell9 rfl _ _ w.heap.size _ _ _ _ rfl hF Tryz.underlying43 rfl (by kernel_rfl)) rfl ⟨⟨si, st, ⟨⟨p, n, c⟩, ⟨q, m, d⟩, f⟩, ⟨a, b0, e0⟩, dd⟩, ?_, ?_, hO9.mono (by omega), hR9.bel, hG9⟩
      · rw [HW.out]; rfl
      · rw [HW.out]; exact HX.out

set_option maxRecDepth 100000 in
set_option maxHeartbeats 4000000 in
theorem readS_any (v : Value) (xs : List Int) (w : World) (hv : Has w v xs) (hB : IsB xs) (hl : xs.length ≤ 1073741824) :
    Calls Tryz.prog 10 #[v] w fun e w' => ∃ X : SnapV, e = .returned (.tuple #[.agg X.arr, .int .i64 (whole10 goodS10 noS10 (snap10 9 (xs, false))).2]) ∧ X.s = (whole10 goodS10 noS10 (snap10 9 (xs, false))).1 ∧ FitsS w' X ∧ Below w.heap.size w w' := by
  have hmf : ∀ (fn : Fn) (first cap : Array Value) (w : World), (Instr.makeFunc fn first cap).run Tryz.prog w = .ok (.func fn first cap) w := fun _ _ _ _ => rfl
  have hb1 : Below w.heap.size w (w.alloc (.cells #[.int .i64 0, .int .i64 0, .slice none 0 0, .slice none 0 0, .slice none 0 0] 43)) := (Below.refl _ _).alloc (Nat.le_refl _) _
  have hbox : SnapAt (w.alloc (.cells #[.int .i64 0, .int .i64 0, .slice none 0 0, .slice none 0 0, .slice none 0 0] 43)) w.heap.size noSV := heap_alloc_new w _
  have hz1 : (w.alloc (.cells #[.int .i64 0, .int .i64 0, .slice none 0 0, .slice none 0 0, .slice none 0 0] 43)).heap.size = w.heap.size + 1 := by simp
  have hR := Rdr.make hb1 hv hB hl 103
  have hsl : ∃ p n c, v = .slice p n c := by
    obtain ⟨p, c, hp, -⟩ := hv
    exact ⟨p, _, c, hp⟩
  have k1 := readerOf_any v (w.alloc (.cells #[.int .i64 0, .int .i64 0, .slice none 0 0, .slice none 0 0, .slice none 0 0] 43)) hsl
  have hb2 : Below (w.alloc (.cells #[.int .i64 0, .int .i64 0, .slice none 0 0, .slice none 0 0, .slice none 0 0] 43)).heap.size (w.alloc (.cells #[.int .i64 0, .int .i64 0, .slice none 0 0, .slice none 0 0, .slice none 0 0] 43)) ((w.alloc (.cells #[.int .i64 0, .int .i64 0, .slice none 0 0, .slice none 0 0, .slice none 0 0] 43)).alloc (.cells #[v, .bool false] 103)) := (Below.refl _ _).alloc (Nat.le_refl _) _
  have hbox2 : SnapAt _ w.heap.size noSV := box_below hbox hb2
  have hwz : w.heap.size < ((w.alloc (.cells #[.int .i64 0, .int .i64 0, .slice none 0 0, .slice none 0 0, .slice none 0 0] 43)).alloc (.cells #[v, .bool false] 103)).heap.size := by simp; omega
  have k2 := wholeS_any w _ _ (xs, false) hR
  generalize whole10 goodS10 noS10 (snap10 9 (xs, false)) = R at *
  obtain ⟨x0, err⟩ := R
  dsimp only at k2
  obtain ⟨p0, n0, c0_, rfl⟩ := hsl
  rw [hz1] at k2 k1
  clear hR hv hB hbox hb2
  go_enter Tryz.func10, Tryz.ntmps10
  go_wp2_with fail
  refine k1.mono ?_
  rintro _ w2 ⟨rfl, rfl⟩
  clear k1
  go_wp2_with fail
  generalize (w.alloc (.cells #[.int .i64 0, .int .i64 0, .slice none 0 0, .slice none 0 0, .slice none 0 0] 43)).alloc (.cells #[.slice p0 n0 c0_, .bool false] 103) = W2 at *
  refine k2.mono ?_
  rintro _ w3 ⟨X, rfl, hX, hM, hb3, hg3⟩
  have hbox3 : SnapAt w3 w.heap.size noSV := grown_box hg3 hbox2 (by omega)
  have HX : Hid (X.s = x0) := hX
  clear k2 hbox2 hX
  obtain ⟨si, st, ⟨⟨p, n, c⟩, ⟨q, m, d⟩, f⟩, ⟨a, b0, e0⟩, dd⟩ := X
  unfold SnapV.arr
  dsimp only
  have d0 := box_cell hbox3 0
  have d1 := box_cell hbox3 1
  have d2 := box_cell hbox3 2
  have d3 := box_cell hbox3 3
  have d4 := box_cell hbox3 4
  dsimp only [SnapV.arr, noSV, noFV, nilS10] at d0 d1 d2 d3 d4
  have hlr := box_lt hbox3
  have fb := frozen9 hbox3
  go_wp2
  have hF := fillS (b := w.heap.size) (x0 := noSV) hbox3 si st p n c q m d a b0 e0 f dd
  have hO9 := ((((((((((hM).cell (b := w.heap.size) (by omega) 0 (.int .i64 si))).cell (b := w.heap.size) (by omega) 1 (.int .i64 st))).cell (b := w.heap.size) (by omega) 2 (.slice p n c))).cell (b := w.heap.size) (by omega) 3 (.slice q m d))).cell (b := w.heap.size) (by omega) 4 (.slice a b0 e0))
  have hB9 : Below w.heap.size w _ := (((((hb3.setCell (p := ⟨w.heap.size, 0, none⟩) (Nat.le_refl _) (.int .i64 si)).setCell (p := ⟨w.heap.size, 1, none⟩) (Nat.le_refl _) (.int .i64 st)).setCell (p := ⟨w.heap.size, 2, none⟩) (Nat.le_refl _) (.slice p n c)).setCell (p := ⟨w.heap.size, 3, none⟩) (Nat.le_refl _) (.slice q m d)).setCell (p := ⟨w.heap.size, 4, none⟩) (Nat.le_refl _) (.slice a b0 e0))
  exact bodyPost_ret (ret_cell9 rfl _ _ w.heap.size _ _ _ _ rfl hF Tryz.underlying43 rfl (by kernel_rfl)) rfl ⟨⟨si, st, ⟨⟨p, n, c⟩, ⟨q, m, d⟩, f⟩, ⟨a, b0, e0⟩, dd⟩, rfl, HX.out, hO9.fits, hB9⟩
end Go.Proofs.YtnbaoimjcaeeaaaGreat

/-
  Contracts: corbelref10.nums, list, conf, entry, snap, Bytes, HardBytes, SnapBytes.
-/
namespace Go.Proofs.YtnbaoimjcaeeaaaGreat
open Go.RowKit Go.Shelf

/-- What each of these calls leaves: bytes, and old memory as it was. -/
def Outs (w : World) (ys : List Int) (e : Ending) (w' : World) : Prop := ∃ v', e = .returned v' ∧ Has w' v' ys ∧ Below w.heap.size w w'

set_option maxRecDepth 100000 in
set_option maxHeartbeats 1500000 in
theorem rnums_any (w : World) (v : Value) (xs ns : List Int) (p : Option Addr) (n c : Nat) (h : Has w v xs) (hN : HasI w (.slice p n c) ns) (hn2 : n ≤ 1000) (hl : xs.length ≤ 1073741824) :
    Calls Tryz.prog 57 #[v, .slice p n c] w (Outs w (xs ++ numsB ns)) := by
  have HN : Hid (ns.length = n) := hN.len.1
  have HX : Hid (HasI w (.slice p n c) ns) := hN
  clear hN
  go_enter Tryz.func57, Tryz.ntmps57
  go_wp2
  go_loopw [0, 9] (fun s0 s9 wr => ∃ (j : Nat) (u : Value), u = s0 ∧ j ≤ n ∧ s9 = .int .i64 (j : Nat) ∧ Has wr u (xs ++ numsB (ns.take j)) ∧ Below w.heap.size w wr) (fun _ s9 _ => n - (intOf s9).toNat)
  case atStart => exact ⟨0, _, rfl, Nat.zero_le _, rfl, by rw [List.take_zero, show numsB [] = [] from rfl, List.append_nil]; exact h, Below.refl _ _⟩
  case round =>
    clear h
    obtain ⟨j, u, hu, hj, rfl, hP, hb⟩ := hrel
    subst hu
    by_cases hlt : j < n
    · obtain ⟨b, o, rfl, hb0, hc0⟩ := HX.out.at hlt
      have hc := (hb.cell (p := ⟨b, o + j, none⟩) hb0).trans hc0
      have hbl : b < wr.heap.size := Nat.lt_of_lt_of_le hb0 hb.size
      have HS : Hid (numsB (ns.take (j + 1)) = numsB (ns.take j) ++ zigB (ns.getD j 0)) := numsB_snoc (by rw [HN.out]; exact hlt)
      have hlen := numsB_take ns j
      rw [HN.out] at hlen
      generalize ns.getD j 0 = x at *
      have hzz := rzig_any x wr
      have hzb := zig_bd x
      have hpp := rput_cod u _ (zigS x) wr hP (by rw [List.length_append]; omega) hzb.1 hzb.2
      have HZ : Hid (zigB x = numB (zigS x)) := rfl
      generalize zigS x = z at *
      have hbz := hb.size
      clear hP hc0 hb0
      go_wp2_with fail
      refine same_mono hzz ?_
      go_wp2_with fail
      refine hpp.mono ?_
      rintro e w3 ⟨v3, rfl, ho3, hb3⟩
      clear hzz hpp
      go_wp2
      go_roundw
      case rel => exact ⟨j + 1, _, rfl, by omega, by go_num, by rw [HS.out, HZ.out, ← List.append_assoc]; exact ho3.has, hb.trans (hb3.mono hbz)⟩
      case measure => simp only [intOf]; omega
    · rw [List.take_of_length_le (by rw [HN.out]; omega)] at hP
      go_wp2
      go_ret
      exact ⟨_, rfl, hP, hb⟩

set_option maxRecDepth 100000 in
set_option maxHeartbeats 1500000 in
theorem rlist_any (w : World) (v : Value) (xs ns : List Int) (p : Option Addr) (n c : Nat) (h : Has w v xs) (hN : HasI w (.slice p n c) ns) (hn2 : n ≤ 1000) (hl : xs.length ≤ 1073700000) :
    Calls Tryz.prog 123 #[v, .slice p n c] w (Outs w (xs ++ listB ns)) := by
  have hn := hN.len.1
  have HL : Hid (xs ++ listB ns = xs ++ numB (n : Int) ++ numsB ns) := by rw [Hid, listB, hn, List.append_assoc]
  have k1 := rput_cod v xs (n : Int) w h (by omega) (by omega) (by omega)
  have hnl := numB_le (n : Int)
  have k2 := fun W u (hb : Below w.heap.size w W) (hu : Has W u (xs ++ numB (n : Int))) => rnums_any W u _ ns p n c hu (hN.below hb (Nat.le_refl _)) hn2 (by rw [List.length_append]; omega)
  clear h hN hn
  go_enter Tryz.func123, Tryz.ntmps123
  go_wp2_with fail
  refine k1.mono ?_
  rintro e w1 ⟨v1, rfl, ho1, hb1⟩
  have k3 := k2 w1 v1 hb1 ho1.has
  clear k1 k2
  go_wp2_with fail
  refine k3.mono ?_
  rintro e w2 ⟨v2, rfl, ho2, hb2⟩
  go_wp2
  go_ret
  exact ⟨_, rfl, by rw [HL.out]; exact ho2, hb1.trans (hb2.mono hb1.size)⟩

theorem keepF {w1 wA wB : World} {b : Nat} {xb0 xb1 : Value} (hlb : b < w1.heap.size) (h : wA.cell? ⟨b, 0, none⟩ = some xb0 ∧ wA.cell? ⟨b, 1, none⟩ = some xb1 ∧ Below w1.heap.size w1 wA) (hb : Below wA.heap.size wA wB) :
    wB.cell? ⟨b, 0, none⟩ = some xb0 ∧ wB.cell? ⟨b, 1, none⟩ = some xb1 ∧ Below w1.heap.size w1 wB := by
  obtain ⟨h0, h1, hz⟩ := h
  have hs := hz.size
  exact ⟨(hb.cell (p := ⟨b, 0, none⟩) (by exact Nat.lt_of_lt_of_le hlb hs)).trans h0, (hb.cell (p := ⟨b, 1, none⟩) (by exact Nat.lt_of_lt_of_le hlb hs)).trans h1, hz.trans (hb.mono hs)⟩
theorem keepF0 {w1 : World} {b : Nat} {xb0 xb1 : Value} (h0 : w1.cell? ⟨b, 0, none⟩ = some xb0) (h1 : w1.cell? ⟨b, 1, none⟩ = some xb1) : w1.drew.cell? ⟨b, 0, none⟩ = some xb0 ∧ w1.drew.cell? ⟨b, 1, none⟩ = some xb1 ∧ Below w1.heap.size w1 w1.drew :=
  ⟨h0, h1, ⟨rfl, rfl, rfl, Nat.le_refl _, fun _ _ => rfl⟩⟩
theorem keepFB {w1 wA : World} {b : Nat} {xb0 xb1 : Value} (h : wA.cell? ⟨b, 0, none⟩ = some xb0 ∧ wA.cell? ⟨b, 1, none⟩ = some xb1 ∧ Below w1.heap.size w1 wA) : Below w1.heap.size w1 wA := h.2.2

theorem keepS {w1 wA wB : World} {b : Nat} {xb0 xb1 xb2 xb3 xb4 : Value} (hlb : b < w1.heap.size) (h : wA.cell? ⟨b, 0, none⟩ = some xb0 ∧ wA.cell? ⟨b, 1, none⟩ = some xb1 ∧ wA.cell? ⟨b, 2, none⟩ = some xb2 ∧ wA.cell? ⟨b, 3, none⟩ = some xb3 ∧ wA.cell? ⟨b, 4, none⟩ = some xb4 ∧ Below w1.heap.size w1 wA) (hb : Below wA.heap.size wA wB) :
    wB.cell? ⟨b, 0, none⟩ = some xb0 ∧ wB.cell? ⟨b, 1, none⟩ = some xb1 ∧ wB.cell? ⟨b, 2, none⟩ = some xb2 ∧ wB.cell? ⟨b, 3, none⟩ = some xb3 ∧ wB.cell? ⟨b, 4, none⟩ = some xb4 ∧ Below w1.heap.size w1 wB := by
  obtain ⟨h0, h1, h2, h3, h4, hz⟩ := h
  have hs := hz.size
  exact ⟨(hb.cell (p := ⟨b, 0, none⟩) (by exact Nat.lt_of_lt_of_le hlb hs)).trans h0, (hb.cell (p := ⟨b, 1, none⟩) (by exact Nat.lt_of_lt_of_le hlb hs)).trans h1, (hb.cell (p := ⟨b, 2, none⟩) (by exact Nat.lt_of_lt_of_le hlb hs)).trans h2, (hb.cell (p := ⟨b, 3, none⟩) (by exact Nat.lt_of_lt_of_le hlb hs)).trans h3, (hb.cell (p := ⟨b, 4, none⟩) (by exact Nat.lt_of_lt_of_le hlb hs)).trans h4, hz.trans (hb.mono hs)⟩
theorem keepS0 {w1 : World} {b : Nat} {xb0 xb1 xb2 xb3 xb4 : Value} (h0 : w1.cell? ⟨b, 0, none⟩ = some xb0) (h1 : w1.cell? ⟨b, 1, none⟩ = some xb1) (h2 : w1.cell? ⟨b, 2, none⟩ = some xb2) (h3 : w1.cell? ⟨b, 3, none⟩ = some xb3) (h4 : w1.cell? ⟨b, 4, none⟩ = some xb4) : w1.drew.cell? ⟨b, 0, none⟩ = some xb0 ∧ w1.drew.cell? ⟨b, 1, none⟩ = some xb1 ∧ w1.drew.cell? ⟨b, 2, none⟩ = some xb2 ∧ w1.drew.cell? ⟨b, 3, none⟩ = some xb3 ∧ w1.drew.cell? ⟨b, 4, none⟩ = some xb4 ∧ Below w1.heap.size w1 w1.drew :=
  ⟨h0, h1, h2, h3, h4, ⟨rfl, rfl, rfl, Nat.le_refl _, fun _ _ => rfl⟩⟩
theorem keepSB {w1 wA : World} {b : Nat} {xb0 xb1 xb2 xb3 xb4 : Value} (h : wA.cell? ⟨b, 0, none⟩ = some xb0 ∧ wA.cell? ⟨b, 1, none⟩ = some xb1 ∧ wA.cell? ⟨b, 2, none⟩ = some xb2 ∧ wA.cell? ⟨b, 3, none⟩ = some xb3 ∧ wA.cell? ⟨b, 4, none⟩ = some xb4 ∧ Below w1.heap.size w1 wA) : Below w1.heap.size w1 wA := h.2.2.2.2.2

set_option maxRecDepth 100000 in
set_option maxHeartbeats 2000000 in
theorem rconf_any (w : World) (v : Value) (xs : List Int) (x : ConfV) (h : Has w v xs) (hF : FitsF w x) (hf : FewF x.f) (hl : xs.length ≤ 1073600000) :
    Calls Tryz.prog 95 #[v, .agg x.arr] w (Outs w (xs ++ confB x.f)) := by
  have hb1 : Below w.heap.size w (w.alloc (.cells x.arr 28)) := (Below.refl _ _).alloc (Nat.le_refl _) _
  have hbz := hb1.size
  have hbox : ConfAt (w.alloc (.cells x.arr 28)) w.heap.size x := heap_alloc_new w _
  have hn1 := hF.u.len.1
  have hn2 := hF.v.len.1
  obtain ⟨f1, f2⟩ := hf
  have HC : Hid (xs ++ confB x.f = xs ++ listB x.f.vs ++ listB x.f.ls) := by rw [Hid, confB, List.append_assoc]
  have hll := listB_len x.f.vs
  have k1 := fun W (hb : Below (w.alloc (.cells x.arr 28)).heap.size (w.alloc (.cells x.arr 28)) W) => rlist_any W v xs x.f.vs _ _ _ ((h.below hb1 (Nat.le_refl _)).below hb (Nat.le_refl _)) ((hF.below hb1).below hb).u (by omega) (by omega)
  have k2 := fun W u (hu : Has W u (xs ++ listB x.f.vs)) (hb : Below (w.alloc (.cells x.arr 28)).heap.size (w.alloc (.cells x.arr 28)) W) => rlist_any W u (xs ++ listB x.f.vs) x.f.ls _ _ _ hu ((hF.below hb1).below hb).v (by omega) (by rw [List.length_append]; omega)
  have HK1 : Hid _ := k1
  have HK2 : Hid _ := k2
  generalize xs ++ confB x.f = bs at *
  generalize xs ++ listB x.f.vs ++ listB x.f.ls = y2 at *
  generalize xs ++ listB x.f.vs = y1 at *
  obtain ⟨pv, cv, rfl, -, -, -⟩ := id h
  generalize hxl : xs.length = nv at *
  clear hxl
  obtain ⟨⟨p, n, c⟩, ⟨q, m, d⟩, f⟩ := x
  unfold ConfV.arr at *
  dsimp only at *
  clear hF hn1 hn2 h k1 k2
  go_enter Tryz.func95, Tryz.ntmps95
  go_wp2_with fail
  generalize w.alloc (.cells #[.slice p n c, .slice q m d] 28) = W1 at *
  have k1 := HK1.out
  have k2 := HK2.out
  obtain ⟨c0, c1⟩ := hbox.cells
  dsimp only at c0 c1
  have hlt := box_lt hbox
  generalize hbb : w.heap.size = b at *
  have Hbb : Hid (w.heap.size = b) := hbb
  clear hbb HK1 HK2
  have s0 := keepF0 c0 c1
  go_region_held3 (fun w' => w'.cell? ⟨b, 0, none⟩ = some (.slice p n c) ∧ w'.cell? ⟨b, 1, none⟩ = some (.slice q m d) ∧ Below W1.heap.size W1 w')
    (first | exact s0 | assumption | exact keepF hlt (by assumption) (by assumption))
    (first
      | (go_at_call 123; (with_reducible refine Calls.mono (k1 _ (keepFB (by assumption))) ?_); rintro e w2 ⟨v2, rfl, ho2, hb2⟩; obtain ⟨p2, q2, rfl, -, -, -⟩ := id ho2)
      | (go_at_call 123; (with_reducible refine Calls.mono (k2 _ _ ho2 (keepFB (by assumption))) ?_); rintro e w3 ⟨v3, rfl, ho3, hb3⟩))
  all_goals
    have hW : Below W1.heap.size W1 w3 := keepFB (by assumption)
    go_wp2
    go_ret
    exact ⟨_, rfl, by rw [HC.out]; exact ho3, by rw [Hbb.out]; exact hb1.trans (hW.mono hbz)⟩

set_option maxRecDepth 100000 in
set_option maxHeartbeats 2000000 in
theorem rentry_any (w : World) (v : Value) (xs : List Int) (x : EntV) (h : Has w v xs) (hF : FitsF w x.f) (hf : FewF x.f.f) (hc : FewC x.c) (hl : xs.length ≤ 1073000000) :
    Calls Tryz.prog 60 #[v, .agg x.arr] w (Outs w (xs ++ entB x.e)) := by
  have hb1 : Below w.heap.size w (w.alloc (.cells x.arr 30)) := (Below.refl _ _).alloc (Nat.le_refl _) _
  have hbox : EntAt (w.alloc (.cells x.arr 30)) w.heap.size x := heap_alloc_new w _
  have HE : Hid (entB x.e = zigB x.i ++ zigB x.t ++ zigB x.k ++ (if x.k = 2 then bytB (cmdB x.c) else []) ++ (if x.k = 3 then confB x.f.f else [])) := rfl
  have HN : Hid (numsB [x.i, x.t, x.k] = zigB x.i ++ zigB x.t ++ zigB x.k) := by simp [Hid, numsB]
  have hl1 : (numsB [x.i, x.t, x.k]).length ≤ 27 := numsB_len _
  have kb := fun W => rbytes20_any x.c W hc
  have hcl := cmdB_few hc
  have HBc : Hid (IsB (cmdB x.c)) := cmdB_isB x.c
  have kt : Hid (∀ W u, Has W u (xs ++ numsB [x.i, x.t, x.k]) → Calls Tryz.prog 93 #[u, .string (strOfNums (cmdB x.c))] W fun e w' => ∃ v', e = .returned v' ∧ Owns w' W.heap.size 5 v' (xs ++ numsB [x.i, x.t, x.k] ++ bytB (cmdB x.c)) ∧ Below W.heap.size W w') := fun W u hu => by
    have := rputText_any u _ (strOfNums (cmdB x.c)) W hu (by rw [List.length_append]; omega) (by rw [size_of HBc.out]; omega)
    rwa [textB_of HBc.out] at this
  have kf : Hid (∀ W u, Below w.heap.size w W → Has W u (xs ++ numsB [x.i, x.t, x.k]) → Calls Tryz.prog 95 #[u, .agg x.f.arr] W (Outs W (xs ++ numsB [x.i, x.t, x.k] ++ confB x.f.f))) := fun W u hb hu => rconf_any W u _ x.f hu (hF.below hb) hf (by rw [List.length_append]; omega)
  have kn := fun W (hb : Below w.heap.size w W) p (hR : HasI W (.slice p 3 3) [x.i, x.t, x.k]) => rnums_any W v xs [x.i, x.t, x.k] p 3 3 (h.below hb (Nat.le_refl _)) hR (by omega) (by omega)
  have HKN : Hid _ := kn
  clear kn h hl hcl hc hf hF
  generalize numsB [x.i, x.t, x.k] = ns at *
  generalize confB x.f.f = fb at *
  generalize hbs : entB x.e = bs at *
  clear hbs
  obtain ⟨i, t, k, ⟨ck, cs, cq, ckey, cold, cval, cunt, clim⟩, ⟨⟨p, n, c⟩, ⟨q, m, d⟩, f⟩⟩ := x
  unfold EntV.arr at *
  unfold ConfV.arr Cmd9.arr at *
  dsimp only at *
  have hr := HasI.lit (w.alloc (.cells #[.int .i64 i, .int .i64 t, .int .i64 k, .int .i64 ck, .int .i64 cs, .int .i64 cq, .string ckey, .string cold, .string cval, .string cunt, .int .i64 clim, .slice p n c, .slice q m d] 30)) [i, t, k] 3
  have hz1 : (w.alloc (.cells #[.int .i64 i, .int .i64 t, .int .i64 k, .int .i64 ck, .int .i64 cs, .int .i64 cq, .string ckey, .string cold, .string cval, .string cunt, .int .i64 clim, .slice p n c, .slice q m d] 30)).heap.size = w.heap.size + 1 := by simp
  have hb2 := (Below.refl _ (w.alloc (.cells #[.int .i64 i, .int .i64 t, .int .i64 k, .int .i64 ck, .int .i64 cs, .int .i64 cq, .string ckey, .string cold, .string cval, .string cunt, .int .i64 clim, .slice p n c, .slice q m d] 30))).alloc (Nat.le_refl _) (.cells #[.int .i64 i, .int .i64 t, .int .i64 k] 3)
  rw [hz1] at hr
  have hB2 := hb1.trans (hb2.mono hb1.size)
  have k1 := HKN.out _ hB2 _ hr
  have hbox2 := box_below hbox hb2
  clear hbox hr HKN hb2 hb1
  go_enter Tryz.func60, Tryz.ntmps60
  go_wp2_with fail
  generalize (w.alloc (.cells #[.int .i64 i, .int .i64 t, .int .i64 k, .int .i64 ck, .int .i64 cs, .int .i64 cq, .string ckey, .string cold, .string cval, .string cunt, .int .i64 clim, .slice p n c, .slice q m d] 30)).alloc (.cells #[.int .i64 i, .int .i64 t, .int .i64 k] 3) = W2 at *
  refine k1.mono ?_
  rintro e w3 ⟨v3, rfl, ho3, hb3⟩
  have hB3 := hB2.trans (hb3.mono hB2.size)
  have hbox3 : EntAt w3 w.heap.size ⟨i, t, k, ⟨ck, cs, cq, ckey, cold, cval, cunt, clim⟩, ⟨⟨p, n, c⟩, ⟨q, m, d⟩, f⟩⟩ := box_below hbox2 hb3
  obtain ⟨c0, c1, c2, c3, c4, c5, c6, c7, c8, c9, c10, c11, c12⟩ := hbox3.cells
  dsimp only at c0 c1 c2 c3 c4 c5 c6 c7 c8 c9 c10 c11 c12
  have hlt := box_lt hbox3
  clear k1 hbox2
  by_cases h2 : k = 2
  · have HE2 : Hid (xs ++ bs = xs ++ ns ++ bytB (cmdB ⟨ck, cs, cq, ckey, cold, cval, cunt, clim⟩)) := by rw [Hid, HE.out, ← HN.out, if_pos h2, if_neg (by omega), List.append_nil, List.append_assoc]
    subst h2
    clear HE
    go_wp2_with fail
    refine (kb _).mono ?_
    rintro e w4 ⟨v4, rfl, ho4, hb4⟩
    have k5 := kt.out w4 v3 (ho3.below hb4 (Nat.le_refl _))
    have cv := ho4.has.conv (P := Tryz.prog) 22 5 9 Tryz.underlying22 Tryz.underlying5 Tryz.underlying9
    have hB4 := hB3.trans (hb4.mono hB3.size)
    have hbox4 : EntAt w4 w.heap.size ⟨i, t, 2, ⟨ck, cs, cq, ckey, cold, cval, cunt, clim⟩, ⟨⟨p, n, c⟩, ⟨q, m, d⟩, f⟩⟩ := box_below hbox3 hb4
    obtain ⟨p4, q4, hv4, -, -, -⟩ := id ho4.has
    rw [hv4] at cv ⊢
    generalize cmdB ⟨ck, cs, cq, ckey, cold, cval, cunt, clim⟩ = cb at *
    generalize cb.length = lcb at *
    generalize strOfNums cb = sb at *
    clear kb c0 c1 c2 c3 c4 c5 c6 c7 c8 c9 c10 c11 c12 hlt hbox3
    go_wp2_with fail
    refine k5.mono ?_
    rintro e w5 ⟨v5, rfl, ho5, hb5⟩
    have hbox5 : EntAt w5 w.heap.size ⟨i, t, 2, ⟨ck, cs, cq, ckey, cold, cval, cunt, clim⟩, ⟨⟨p, n, c⟩, ⟨q, m, d⟩, f⟩⟩ := box_below hbox4 hb5
    obtain ⟨-, -, c2, -⟩ := hbox5.cells
    dsimp only at c2
    have hlt := box_lt hbox5
    go_wp2
    go_ret
    exact ⟨_, rfl, by rw [HE2.out]; exact ho5.has, hB4.trans (hb5.mono hB4.size)⟩
  · have e2 : (k == 2) = false := by simpa using h2
    by_cases h3 : k = 3
    · have HE2 : Hid (xs ++ bs = xs ++ ns ++ fb) := by rw [Hid, HE.out, ← HN.out, if_neg h2, if_pos h3, List.append_nil, List.append_assoc]
      subst h3
      have k5 := kf.out w3 v3 hB3 ho3
      clear HE kb
      go_wp2_with fail
      refine k5.mono ?_
      rintro e w5 ⟨v5, rfl, ho5, hb5⟩
      go_wp2
      go_ret
      exact ⟨_, rfl, by rw [HE2.out]; exact ho5, hB3.trans (hb5.mono hB3.size)⟩
    · have HE2 : Hid (xs ++ bs = xs ++ ns) := by rw [Hid, HE.out, ← HN.out, if_neg h2, if_neg h3, List.append_nil, List.append_nil]
      have e3 : (k == 3) = false := by simpa using h3
      clear HE kb
      go_wp2
      go_ret
      exact ⟨_, rfl, by rw [HE2.out]; exact ho3, hB3⟩
end Go.Proofs.YtnbaoimjcaeeaaaGreat
