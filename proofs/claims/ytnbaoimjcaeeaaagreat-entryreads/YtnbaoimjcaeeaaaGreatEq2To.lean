import Derived.Test.YtnbaoimjcaeeaaaGreatEo4To
import Derived.Test.YtnbaoimjcaeeaaaGreatEq1To
/-
  Contracts: entry.whole and what reads of bytes: Read, ReadHard, ReadSnap.
-/
namespace Go.Proofs.YtnbaoimjcaeeaaaGreat
open Go.RowKit Go.Shelf

theorem pent10_in (S : St) : inI (pent10 S).1.i ∧ inI (pent10 S).1.t ∧ inI (pent10 S).1.k := by
  rw [pent10_is]
  have h0 := int9_in S
  have h1 := int9_in (int9 S).2
  have h2 := int9_in (int9 (int9 S).2).2
  generalize (int9 S).1 = a at *
  generalize (int9 (int9 S).2).1 = b at *
  generalize (int9 (int9 (int9 S).2).2).1 = c at *
  generalize (int9 (int9 (int9 S).2).2).2 = T at *
  by_cases e2 : c = 2
  · rw [e2, ptail10_cmd]; rw [e2] at h2; exact ⟨h0, h1, h2⟩
  by_cases e3 : c = 3
  · rw [e3, ptail10_conf]; rw [e3] at h2; exact ⟨h0, h1, h2⟩
  rw [ptail10_else _ _ _ _ e2 e3]
  exact ⟨h0, h1, h2⟩
/-- An entry that the call made. -/
structure OwnsE (w : World) (B : Nat) (x : EntV) : Prop where
  i : inI x.i
  t : inI x.t
  k : inI x.k
  c : Fits9 x.c
  f : OwnsF w B x.f
theorem OwnsE.fits {w : World} {B : Nat} {x : EntV} (h : OwnsE w B x) : FitsE w x := ⟨h.i, h.t, h.k, h.c, h.f.fits⟩
theorem OwnsE.mono {w : World} {B B' : Nat} {x : EntV} (h : OwnsE w B x) (hB : B' ≤ B) : OwnsE w B' x := ⟨h.i, h.t, h.k, h.c, h.f.mono hB⟩
theorem OwnsE.kept {w w' : World} {B r : Nat} {x : EntV} (h : OwnsE w B x) (hg : w.grownBy w' (some r)) (hr : r < B) : OwnsE w' B x := ⟨h.i, h.t, h.k, h.c, h.f.kept hg hr⟩
theorem OwnsE.cell {w : World} {B b : Nat} {x : EntV} (h : OwnsE w B x) (hb : b < B) (i : Nat) (v : Value) : OwnsE (w.setCell ⟨b, i, none⟩ v) B x := h.kept (grown_set w b i v) hb
theorem OwnsE.below {w w' : World} {B : Nat} {x : EntV} (h : OwnsE w B x) (hb : Below w.heap.size w w') : OwnsE w' B x := ⟨h.i, h.t, h.k, h.c, h.f.below hb⟩
theorem OwnsE.nil (w : World) (B : Nat) : OwnsE w B noEV := ⟨⟨by decide, by decide⟩, ⟨by decide, by decide⟩, ⟨by decide, by decide⟩, fits_zeroC, OwnsF.nil w B⟩
theorem partE_any (w0 w : World) (rb : Nat) (S : St) (h : Rdr w0 w rb S) :
    Calls Tryz.prog 28 #[.pointer (some ⟨rb, 0, none⟩)] w fun e w' => ∃ X : EntV, e = .returned (.agg X.arr) ∧ X.e = (pent10 S).1 ∧ OwnsE w' w.heap.size X ∧ Left10 w0 w rb (pent10 S).2 w' := by
  refine (entryR_any w0 w rb S h).mono ?_
  rintro e w' ⟨X, rfl, hX, hO, hC, hL⟩
  have hi := pent10_in S
  rw [← hX] at hi
  exact ⟨X, rfl, hX, ⟨hi.1, hi.2.1, hi.2.2, hC, hO⟩, hL⟩

/-- Numbers alone. -/
structure OwnsH (w : World) (B : Nat) (x : Hard10) : Prop where
  fits : FitsH x
  here : w.heap.size = w.heap.size ∧ B = B
theorem OwnsH.mono {w : World} {B B' : Nat} {x : Hard10} (h : OwnsH w B x) (_ : B' ≤ B) : OwnsH w B' x := ⟨h.fits, rfl, rfl⟩
theorem OwnsH.kept {w w' : World} {B r : Nat} {x : Hard10} (h : OwnsH w B x) (_ : w.grownBy w' (some r)) (_ : r < B) : OwnsH w' B x := ⟨h.fits, rfl, rfl⟩
theorem OwnsH.cell {w : World} {B b : Nat} {x : Hard10} (h : OwnsH w B x) (_ : b < B) (i : Nat) (v : Value) : OwnsH (w.setCell ⟨b, i, none⟩ v) B x := ⟨h.fits, rfl, rfl⟩
theorem OwnsH.below {w w' : World} {B : Nat} {x : Hard10} (h : OwnsH w B x) (_ : Below w.heap.size w w') : OwnsH w' B x := ⟨h.fits, rfl, rfl⟩
def noH10 : Hard10 := ⟨0, 0, 0⟩
def Hard10.e (x : Hard10) : Hard10 := x
theorem OwnsH.nil (w : World) (B : Nat) : OwnsH w B noH10 := ⟨⟨⟨by decide, by decide⟩, ⟨by decide, by decide⟩, ⟨by decide, by decide⟩⟩, rfl, rfl⟩
theorem partH_any (w0 w : World) (rb : Nat) (S : St) (h : Rdr w0 w rb S) :
    Calls Tryz.prog 33 #[.pointer (some ⟨rb, 0, none⟩)] w fun e w' => ∃ X : Hard10, e = .returned (.agg X.arr) ∧ X.e = (hard10 S).1 ∧ OwnsH w' w.heap.size X ∧ Left10 w0 w rb (hard10 S).2 w' := by
  refine (hardR_any w0 w rb S h).mono ?_
  rintro e w' ⟨rfl, hL⟩
  exact ⟨(hard10 S).1, rfl, rfl, ⟨by rw [hard10_is]; exact ⟨int9_in _, int9_in _, int9_in _⟩, rfl, rfl⟩, hL⟩

set_option maxRecDepth 100000 in
set_option maxHeartbeats 4000000 in
theorem wholeH_any (w0 w : World) (rb : Nat) (S : St) (h : Rdr w0 w rb S) :
    Calls Tryz.prog 32 #[.pointer (some ⟨rb, 0, none⟩), .func (.func 33) #[.pointer (some ⟨rb, 0, none⟩)] #[], .func (.func 34) #[] #[]] w fun e w' => ∃ X : Hard10, e = .returned (.tuple #[.agg X.arr, .int .i64 (whole10 goodH10 noH10 (hard10 S)).2]) ∧ X.e = (whole10 goodH10 noH10 (hard10 S)).1 ∧ OwnsH w' w.heap.size X ∧ Below w0.heap.size w0 w' ∧ w.grownBy w' (some rb) := by
  have hb1 : Below w.heap.size w (w.alloc (.cells #[.int .i64 0, .int .i64 0, .int .i64 0] 37)) := (Below.refl _ _).alloc (Nat.le_refl _) _
  have hbox : HardAt (w.alloc (.cells #[.int .i64 0, .int .i64 0, .int .i64 0] 37)) w.heap.size noH10 := heap_alloc_new w _
  have hz1 : (w.alloc (.cells #[.int .i64 0, .int .i64 0, .int .i64 0] 37)).heap.size = w.heap.size + 1 := by simp
  have hrl := h.lt
  have k1 := partH_any w0 _ rb S (h.more hb1)
  have HW0 : Hid (whole10 goodH10 noH10 (hard10 S) = if ((hard10 S).2.1.isEmpty && !(hard10 S).2.2) && goodH10 (hard10 S).1 then ((hard10 S).1, 0) else (noH10, 8)) := rfl
  generalize whole10 goodH10 noH10 (hard10 S) = R at *
  generalize hard10 S = A at *
  obtain ⟨x0, S1⟩ := A
  dsimp only at k1 HW0
  clear h
  go_enter Tryz.func32, Tryz.ntmps32
  go_wp2_with fail
  generalize w.alloc (.cells #[.int .i64 0, .int .i64 0, .int .i64 0] 37) = W1 at *
  refine k1.mono ?_
  rintro _ w2 ⟨X, rfl, hX, hM, hR2, hg2⟩
  have hbox2 : HardAt w2 w.heap.size noH10 := grown_box hg2 hbox (by omega)
  have hG2 := grown_after hb1 hg2
  have hsz2 := hg2.size
  have hb3 : Below w2.heap.size w2 (w2.alloc (.cells X.arr 37)) := (Below.refl _ _).alloc (Nat.le_refl _) _
  have hbn3 : HardAt (w2.alloc (.cells X.arr 37)) w2.heap.size X := heap_alloc_new w2 _
  have hbox3 := box_below hbox2 hb3
  have hR3 := hR2.more hb3
  have hG3 := grown_trans hG2 (below_grownBy hb3)
  have hM3 := hM.below hb3
  have kg : Calls Tryz.prog 34 #[.agg X.arr] (w2.alloc (.cells X.arr 37)) fun e w' => e = .returned (.bool (goodH10 X.e)) ∧ Below (w2.alloc (.cells X.arr 37)).heap.size (w2.alloc (.cells X.arr 37)) w' := (fun W _ => goodHard_any X W) _ hM3.fits
  have kf := hR3.fin
  have HX : Hid (X.e = x0) := hX
  rw [hX] at kg
  clear k1 hbox hR2 hg2 hbox2 hG2 hb3 hM hX
  generalize hgx : goodH10 x0 = gx at *
  have HGX : Hid (goodH10 x0 = gx) := hgx
  clear hgx
  obtain ⟨ht, hv, hc⟩ := X
  unfold Hard10.arr at *
  dsimp only at *
  go_wp2_with fail
  generalize w2.alloc (.cells #[.int .i64 ht, .int .i64 hv, .int .i64 hc] 37) = W3 at *
  generalize w2.heap.size = bx at *
  generalize hfi : (S1.1.isEmpty && !S1.2) = fi at *
  cases fi with
  | false =>
    have HW : Hid (R = (noH10, 8)) := by rw [Hid, HW0.out]; rfl
    clear HW0
    refine same_mono kf ?_
    have hbn : Below W3.heap.size W3 (W3.alloc (.cells #[.int .i64 0, .int .i64 0, .int .i64 0] 37)) := (Below.refl _ _).alloc (Nat.le_refl _) _
    have hbx : HardAt (W3.alloc (.cells #[.int .i64 0, .int .i64 0, .int .i64 0] 37)) w.heap.size noH10 := box_below hbox3 hbn
    have hnn : HardAt (W3.alloc (.cells #[.int .i64 0, .int .i64 0, .int .i64 0] 37)) W3.heap.size noH10 := heap_alloc_new W3 _
    have hRn := hR3.more hbn
    have hGn := grown_trans hG3 (below_grownBy hbn)
    have d0 := box_cell hbx 0
    have d1 := box_cell hbx 1
    have d2 := box_cell hbx 2
    have fb := frozen9 hbx
    have hlr := box_lt hbx
    have e0 := box_cell hnn 0
    have e1 := box_cell hnn 1
    have e2 := box_cell hnn 2
    have hln := box_lt hnn
    have hMn := OwnsH.nil (W3.alloc (.cells #[.int .i64 0, .int .i64 0, .int .i64 0] 37)) (w.heap.size + 1)
    dsimp only [Hard10.arr, noH10] at d0 d1 d2 e0 e1 e2
    go_upto_region 4 with fail
    generalize W3.alloc (.cells #[.int .i64 0, .int .i64 0, .int .i64 0] 37) = W9 at *
    generalize W3.heap.size = nb at *
    go_wp2
    have hF := fillH (b := w.heap.size) (x0 := noH10) hbx 0 0 0 
    have hR9 := ((((((hRn).cell (b := w.heap.size) (by omega) (by omega) 0 (.int .i64 0))).cell (b := w.heap.size) (by omega) (by omega) 1 (.int .i64 0))).cell (b := w.heap.size) (by omega) (by omega) 2 (.int .i64 0))
    have hG9 := (grown_new (b := w.heap.size) (grown_new (b := w.heap.size) (grown_new (b := w.heap.size) hGn (by omega) 0 (.int .i64 0)) (by omega) 1 (.int .i64 0)) (by omega) 2 (.int .i64 0))
    have hO9 := ((((((hMn).cell (b := w.heap.size) (by omega) 0 (.int .i64 0))).cell (b := w.heap.size) (by omega) 1 (.int .i64 0))).cell (b := w.heap.size) (by omega) 2 (.int .i64 0))
    refine bodyPost_ret (ret_cell9 rfl _ _ w.heap.size _ _ _ _ rfl hF Tryz.underlying37 rfl (by kernel_rfl)) rfl ⟨noH10, ?_, ?_, hO9.mono (by omega), hR9.bel, hG9⟩
    · rw [HW.out]; rfl
    · rw [HW.out]; rfl
  | true =>
    refine same_mono kf ?_
    clear kf
    replace hbn3 : HardAt W3 bx ⟨ht, hv, hc⟩ := hbn3
    have c0 := box_cell hbn3 0
    have c1 := box_cell hbn3 1
    have c2 := box_cell hbn3 2
    have hlx := box_lt hbn3
    dsimp only [Hard10.arr] at c0 c1 c2
    go_wp2_with fail
    refine kg.mono ?_
    rintro _ w4 ⟨rfl, hb4⟩
    have hbx4 : HardAt w4 bx ⟨ht, hv, hc⟩ := box_below hbn3 hb4
    have hbox4 : HardAt w4 w.heap.size noH10 := box_below hbox3 hb4
    have hR4 := hR3.more hb4
    have hG4 := grown_trans hG3 (below_grownBy hb4)
    have hM4 := hM3.below hb4
    clear kg hbn3 hbox3 hR3 hG3 hM3 hb4 c0 c1 c2 hlx
    cases gx with
    | false =>
      have HW : Hid (R = (noH10, 8)) := by rw [Hid, HW0.out]; rfl
      clear HW0
      have hbn : Below w4.heap.size w4 (w4.alloc (.cells #[.int .i64 0, .int .i64 0, .int .i64 0] 37)) := (Below.refl _ _).alloc (Nat.le_refl _) _
      have hbx : HardAt (w4.alloc (.cells #[.int .i64 0, .int .i64 0, .int .i64 0] 37)) w.heap.size noH10 := box_below hbox4 hbn
      have hnn : HardAt (w4.alloc (.cells #[.int .i64 0, .int .i64 0, .int .i64 0] 37)) w4.heap.size noH10 := heap_alloc_new w4 _
      have hRn := hR4.more hbn
      have hGn := grown_trans hG4 (below_grownBy hbn)
      have d0 := box_cell hbx 0
      have d1 := box_cell hbx 1
      have d2 := box_cell hbx 2
      have fb := frozen9 hbx
      have hlr := box_lt hbx
      have e0 := box_cell hnn 0
      have e1 := box_cell hnn 1
      have e2 := box_cell hnn 2
      have hln := box_lt hnn
      have hMn := OwnsH.nil (w4.alloc (.cells #[.int .i64 0, .int .i64 0, .int .i64 0] 37)) (w.heap.size + 1)
      dsimp only [Hard10.arr, noH10] at d0 d1 d2 e0 e1 e2
      go_upto_region 4 with fail
      generalize w4.alloc (.cells #[.int .i64 0, .int .i64 0, .int .i64 0] 37) = W9 at *
      generalize w4.heap.size = nb at *
      go_wp2
      have hF := fillH (b := w.heap.size) (x0 := noH10) hbx 0 0 0 
      have hR9 := ((((((hRn).cell (b := w.heap.size) (by omega) (by omega) 0 (.int .i64 0))).cell (b := w.heap.size) (by omega) (by omega) 1 (.int .i64 0))).cell (b := w.heap.size) (by omega) (by omega) 2 (.int .i64 0))
      have hG9 := (grown_new (b := w.heap.size) (grown_new (b := w.heap.size) (grown_new (b := w.heap.size) hGn (by omega) 0 (.int .i64 0)) (by omega) 1 (.int .i64 0)) (by omega) 2 (.int .i64 0))
      have hO9 := ((((((hMn).cell (b := w.heap.size) (by omega) 0 (.int .i64 0))).cell (b := w.heap.size) (by omega) 1 (.int .i64 0))).cell (b := w.heap.size) (by omega) 2 (.int .i64 0))
      refine bodyPost_ret (ret_cell9 rfl _ _ w.heap.size _ _ _ _ rfl hF Tryz.underlying37 rfl (by kernel_rfl)) rfl ⟨noH10, ?_, ?_, hO9.mono (by omega), hR9.bel, hG9⟩
      · rw [HW.out]; rfl
      · rw [HW.out]; rfl
    | true =>
      have HW : Hid (R = (x0, 0)) := by rw [Hid, HW0.out]; rfl
      clear HW0
      have c0 := box_cell hbx4 0
      have c1 := box_cell hbx4 1
      have c2 := box_cell hbx4 2
      have d0 := box_cell hbox4 0
      have d1 := box_cell hbox4 1
      have d2 := box_cell hbox4 2
      dsimp only [Hard10.arr, noH10] at c0 c1 c2 d0 d1 d2
      have hlx := box_lt hbx4
      have hlr := box_lt hbox4
      have fb := frozen9 hbox4
      go_wp2
      have hF := fillH (b := w.heap.size) (x0 := noH10) hbox4 ht hv hc 
      have hR9 := ((((((hR4).cell (b := w.heap.size) (by omega) (by omega) 0 (.int .i64 ht))).cell (b := w.heap.size) (by omega) (by omega) 1 (.int .i64 hv))).cell (b := w.heap.size) (by omega) (by omega) 2 (.int .i64 hc))
      have hG9 := (grown_new (b := w.heap.size) (grown_new (b := w.heap.size) (grown_new (b := w.heap.size) hG4 (by omega) 0 (.int .i64 ht)) (by omega) 1 (.int .i64 hv)) (by omega) 2 (.int .i64 hc))
      have hO9 := ((((((hM4).cell (b := w.heap.size) (by omega) 0 (.int .i64 ht))).cell (b := w.heap.size) (by omega) 1 (.int .i64 hv))).cell (b := w.heap.size) (by omega) 2 (.int .i64 hc))
      refine bodyPost_ret (ret_cell9 rfl _ _ w.heap.size _ _ _ _ rfl hF Tryz.underlying37 rfl (by kernel_rfl)) rfl ⟨⟨ht, hv, hc⟩, ?_, ?_, hO9.mono (by omega), hR9.bel, hG9⟩
      · rw [HW.out]; rfl
      · rw [HW.out]; exact HX.out

set_option maxRecDepth 100000 in
set_option maxHeartbeats 4000000 in
theorem readH_any (v : Value) (xs : List Int) (w : World) (hv : Has w v xs) (hB : IsB xs) (hl : xs.length ≤ 1073741824) :
    Calls Tryz.prog 8 #[v] w fun e w' => ∃ X : Hard10, e = .returned (.tuple #[.agg X.arr, .int .i64 (whole10 goodH10 noH10 (hard10 (xs, false))).2]) ∧ X.e = (whole10 goodH10 noH10 (hard10 (xs, false))).1 ∧ FitsH X ∧ Below w.heap.size w w' := by
  have hmf : ∀ (fn : Fn) (first cap : Array Value) (w : World), (Instr.makeFunc fn first cap).run Tryz.prog w = .ok (.func fn first cap) w := fun _ _ _ _ => rfl
  have hb1 : Below w.heap.size w (w.alloc (.cells #[.int .i64 0, .int .i64 0, .int .i64 0] 37)) := (Below.refl _ _).alloc (Nat.le_refl _) _
  have hbox : HardAt (w.alloc (.cells #[.int .i64 0, .int .i64 0, .int .i64 0] 37)) w.heap.size noH10 := heap_alloc_new w _
  have hz1 : (w.alloc (.cells #[.int .i64 0, .int .i64 0, .int .i64 0] 37)).heap.size = w.heap.size + 1 := by simp
  have hR := Rdr.make hb1 hv hB hl 103
  have hsl : ∃ p n c, v = .slice p n c := by
    obtain ⟨p, c, hp, -⟩ := hv
    exact ⟨p, _, c, hp⟩
  have k1 := readerOf_any v (w.alloc (.cells #[.int .i64 0, .int .i64 0, .int .i64 0] 37)) hsl
  have hb2 : Below (w.alloc (.cells #[.int .i64 0, .int .i64 0, .int .i64 0] 37)).heap.size (w.alloc (.cells #[.int .i64 0, .int .i64 0, .int .i64 0] 37)) ((w.alloc (.cells #[.int .i64 0, .int .i64 0, .int .i64 0] 37)).alloc (.cells #[v, .bool false] 103)) := (Below.refl _ _).alloc (Nat.le_refl _) _
  have hbox2 : HardAt _ w.heap.size noH10 := box_below hbox hb2
  have hwz : w.heap.size < ((w.alloc (.cells #[.int .i64 0, .int .i64 0, .int .i64 0] 37)).alloc (.cells #[v, .bool false] 103)).heap.size := by simp; omega
  have k2 := wholeH_any w _ _ (xs, false) hR
  generalize whole10 goodH10 noH10 (hard10 (xs, false)) = R at *
  obtain ⟨x0, err⟩ := R
  dsimp only at k2
  obtain ⟨p0, n0, c0_, rfl⟩ := hsl
  rw [hz1] at k2 k1
  clear hR hv hB hbox hb2
  go_enter Tryz.func8, Tryz.ntmps8
  go_wp2_with fail
  refine k1.mono ?_
  rintro _ w2 ⟨rfl, rfl⟩
  clear k1
  go_wp2_with fail
  generalize (w.alloc (.cells #[.int .i64 0, .int .i64 0, .int .i64 0] 37)).alloc (.cells #[.slice p0 n0 c0_, .bool false] 103) = W2 at *
  refine k2.mono ?_
  rintro _ w3 ⟨X, rfl, hX, hM, hb3, hg3⟩
  have hbox3 : HardAt w3 w.heap.size noH10 := grown_box hg3 hbox2 (by omega)
  have HX : Hid (X.e = x0) := hX
  clear k2 hbox2 hX
  obtain ⟨ht, hv, hc⟩ := X
  unfold Hard10.arr
  dsimp only
  have d0 := box_cell hbox3 0
  have d1 := box_cell hbox3 1
  have d2 := box_cell hbox3 2
  dsimp only [Hard10.arr, noH10] at d0 d1 d2
  have hlr := box_lt hbox3
  have fb := frozen9 hbox3
  go_wp2
  have hF := fillH (b := w.heap.size) (x0 := noH10) hbox3 ht hv hc 
  have hO9 := ((((((hM).cell (b := w.heap.size) (by omega) 0 (.int .i64 ht))).cell (b := w.heap.size) (by omega) 1 (.int .i64 hv))).cell (b := w.heap.size) (by omega) 2 (.int .i64 hc))
  have hB9 : Below w.heap.size w _ := (((hb3.setCell (p := ⟨w.heap.size, 0, none⟩) (Nat.le_refl _) (.int .i64 ht)).setCell (p := ⟨w.heap.size, 1, none⟩) (Nat.le_refl _) (.int .i64 hv)).setCell (p := ⟨w.heap.size, 2, none⟩) (Nat.le_refl _) (.int .i64 hc))
  exact bodyPost_ret (ret_cell9 rfl _ _ w.heap.size _ _ _ _ rfl hF Tryz.underlying37 rfl (by kernel_rfl)) rfl ⟨⟨ht, hv, hc⟩, rfl, HX.out, hO9.fits, hB9⟩
end Go.Proofs.YtnbaoimjcaeeaaaGreat

/-
  Contracts: corbelref10.readEntry.
-/
namespace Go.Proofs.YtnbaoimjcaeeaaaGreat
open Go.RowKit Go.Shelf

/-- The reader is wrong, and nothing is left. -/
theorem Rdr.off {w0 w : World} {rb : Nat} {S : St} (h : Rdr w0 w rb S) : Left10 w0 w rb ([], true) ((w.setCell ⟨rb, 1, none⟩ (.bool true)).setCell ⟨rb, 0, none⟩ (.slice none 0 0)) := by
  obtain ⟨v, hv⟩ := h.rd
  have hg := grown_trans (grown_set w rb 1 (.bool true)) (grown_set (w.setCell ⟨rb, 1, none⟩ (.bool true)) rb 0 (.slice none 0 0))
  exact ⟨h.grow ⟨_, (hv.setW true).setB (HasIn.nil _ _)⟩ hg (fun _ => rfl) IsB.nil (Nat.zero_le _), hg⟩
theorem tail10_cmd (m i t : Int) (S : St) : tail10 m i t 2 S = (⟨i, t, 2, (readC9 (byt10 S).1).1, noF10⟩, if (readC9 (byt10 S).1).2 = 0 then (byt10 S).2 else ([], true)) := by
  unfold tail10 bindR holdR retR
  rw [if_pos rfl]
  dsimp only
  by_cases h : (readC9 (byt10 S).1).2 = 0
  · rw [if_pos h, decide_eq_true h]; rfl
  · rw [if_neg h, decide_eq_false h]; rfl
theorem tail10_conf (m i t : Int) : tail10 m i t 3 = bindR (conf10 m) fun f => retR ⟨i, t, 3, zeroC9, f⟩ := by
  unfold tail10
  rw [if_neg (by decide), if_pos rfl]
theorem tail10_else (m i t k : Int) (S : St) (h2 : k ≠ 2) (h3 : k ≠ 3) : tail10 m i t k S = (⟨i, t, k, zeroC9, noF10⟩, S) := by
  unfold tail10 retR
  rw [if_neg h2, if_neg h3]
/-- What the document's reader of an entry leaves. -/
def TellsE (w0 w : World) (rb : Nat) (R : Ent10 × St) (e : Ending) (w' : World) : Prop := ∃ (X : EntV) (S' : St), e = .returned (.agg X.arr) ∧ OwnsE w' w.heap.size X ∧ Tell10 R X.e S' ∧ Left10 w0 w rb S' w'
theorem ent10_is {m : Int} {S0 S1 S2 S3 : St} {i t k : Int} (e0 : int9 S0 = (i, S1)) (e1 : int9 S1 = (t, S2)) (e2 : int9 S2 = (k, S3)) : ent10 m S0 = tail10 m i t k S3 := by
  unfold ent10
  rw [bindR_eq e0, bindR_eq e1, bindR_eq e2]


set_option maxRecDepth 100000 in
set_option maxHeartbeats 8000000 in
theorem rentryR_any (w0 w : World) (rb : Nat) (S0 : St) (h : Rdr w0 w rb S0) :
    Calls Tryz.prog 29 #[.pointer (some ⟨rb, 0, none⟩)] w (TellsE w0 w rb (ent10 1000000 S0)) := by
  have h0 : RdX w0 w _ rb S0 30 #[.int .i64 0, .int .i64 0, .int .i64 0, .int .i64 0, .int .i64 0, .int .i64 0, .string em9, .string em9, .string em9, .string em9, .int .i64 0, .slice none 0 0, .slice none 0 0] #[.int .i64 0, .int .i64 0, .int .i64 0, .int .i64 0, .int .i64 0, .int .i64 0, .string em9, .string em9, .string em9, .string em9, .int .i64 0, .slice none 0 0, .slice none 0 0] := RdX.new h 30 #[.int .i64 0, .int .i64 0, .int .i64 0, .int .i64 0, .int .i64 0, .int .i64 0, .string em9, .string em9, .string em9, .string em9, .int .i64 0, .slice none 0 0, .slice none 0 0]
  have hrl := h.lt
  clear h
  generalize hR : ent10 1000000 S0 = R
  have HR : Hid (ent10 1000000 S0 = R) := hR
  clear hR
  go_enter Tryz.func29, Tryz.ntmps29
  have ki0 := h0.r.rint
  have HI0 : Hid (inI (int9 S0).1) := int9_in _
  go_wp2_with fail
  refine ki0.mono ?_
  rintro _ y0 ⟨rfl, hl0⟩
  have g0 := h0.left hl0
  clear h0 ki0 hl0
  generalize hA : int9 S0 = A at *
  obtain ⟨z0, S1⟩ := A
  have E0 : Hid (int9 S0 = (z0, S1)) := hA
  clear hA
  dsimp only at g0 HI0
  have c0 := box_cell g0.box 0
  have fb := frozen9 g0.box
  have hlb := box_lt g0.box
  go_upto_region 3 with fail
  have h1 : RdX w0 w _ rb S1 30 #[.int .i64 z0, .int .i64 0, .int .i64 0, .int .i64 0, .int .i64 0, .int .i64 0, .string em9, .string em9, .string em9, .string em9, .int .i64 0, .slice none 0 0, .slice none 0 0] #[.int .i64 0, .int .i64 0, .int .i64 0, .int .i64 0, .int .i64 0, .int .i64 0, .string em9, .string em9, .string em9, .string em9, .int .i64 0, .slice none 0 0, .slice none 0 0] := g0.put 0 (.int .i64 z0) (by show 0 < 13; omega)
  clear g0 c0 fb hlb
  generalize y0.setCell ⟨w.heap.size + 1, 0, none⟩ (.int .i64 z0) = X0 at *
  have ki1 := h1.r.rint
  have HI1 : Hid (inI (int9 S1).1) := int9_in _
  go_wp2_with fail
  refine ki1.mono ?_
  rintro _ y1 ⟨rfl, hl1⟩
  have g1 := h1.left hl1
  clear h1 ki1 hl1
  generalize hA : int9 S1 = A at *
  obtain ⟨z1, S2⟩ := A
  have E1 : Hid (int9 S1 = (z1, S2)) := hA
  clear hA
  dsimp only at g1 HI1
  have c1 := box_cell g1.box 1
  have fb := frozen9 g1.box
  have hlb := box_lt g1.box
  go_upto_region 4 with fail
  have h2 : RdX w0 w _ rb S2 30 #[.int .i64 z0, .int .i64 z1, .int .i64 0, .int .i64 0, .int .i64 0, .int .i64 0, .string em9, .string em9, .string em9, .string em9, .int .i64 0, .slice none 0 0, .slice none 0 0] #[.int .i64 0, .int .i64 0, .int .i64 0, .int .i64 0, .int .i64 0, .int .i64 0, .string em9, .string em9, .string em9, .string em9, .int .i64 0, .slice none 0 0, .slice none 0 0] := g1.put 1 (.int .i64 z1) (by show 1 < 13; omega)
  clear g1 c1 fb hlb
  generalize y1.setCell ⟨w.heap.size + 1, 1, none⟩ (.int .i64 z1) = X1 at *
  have ki2 := h2.r.rint
  have HI2 : Hid (inI (int9 S2).1) := int9_in _
  go_wp2_with fail
  refine ki2.mono ?_
  rintro _ y2 ⟨rfl, hl2⟩
  have g2 := h2.left hl2
  clear h2 ki2 hl2
  generalize hA : int9 S2 = A at *
  obtain ⟨z2, S3⟩ := A
  have E2 : Hid (int9 S2 = (z2, S3)) := hA
  clear hA
  dsimp only at g2 HI2
  have c2 := box_cell g2.box 2
  have fb := frozen9 g2.box
  have hlb := box_lt g2.box
  go_upto_region 5 with fail
  have h3 : RdX w0 w _ rb S3 30 #[.int .i64 z0, .int .i64 z1, .int .i64 z2, .int .i64 0, .int .i64 0, .int .i64 0, .string em9, .string em9, .string em9, .string em9, .int .i64 0, .slice none 0 0, .slice none 0 0] #[.int .i64 0, .int .i64 0, .int .i64 0, .int .i64 0, .int .i64 0, .int .i64 0, .string em9, .string em9, .string em9, .string em9, .int .i64 0, .slice none 0 0, .slice none 0 0] := g2.put 2 (.int .i64 z2) (by show 2 < 13; omega)
  clear g2 c2 fb hlb
  generalize y2.setCell ⟨w.heap.size + 1, 2, none⟩ (.int .i64 z2) = X2 at *
  have HC : Hid (R = tail10 1000000 z0 z1 z2 S3) := HR.out.symm.trans (ent10_is E0.out E1.out E2.out)
  clear E0 E1 E2 HR
  have c2 := box_cell h3.box 2
  have hlb := box_lt h3.box
  have hws := h3.g.size
  by_cases e2 : z2 = 2
  · have HT0 : Hid (R = (⟨z0, z1, 2, (readC9 (byt10 S3).1).1, noF10⟩, if (readC9 (byt10 S3).1).2 = 0 then (byt10 S3).2 else ([], true))) := by rw [Hid, HC.out, e2, tail10_cmd]
    subst e2
    clear HC
    have kt := h3.r.rtext
    have HB : Hid (IsB (byt10 S3).1) := byt10_isB h3.r.isb
    have hlen : (byt10 S3).1.length ≤ 1073741824 := Nat.le_trans (byt10_len S3) h3.r.len
    have kr : Hid (∀ W v, Has W v (byt10 S3).1 → Calls Tryz.prog 71 #[v] W fun e w' => e = .returned (.tuple #[.agg (readC9 (byt10 S3).1).1.arr, .int .i64 (readC9 (byt10 S3).1).2]) ∧ Below W.heap.size W w') := fun W v hv => rreadC_any v _ W hv HB.out (by omega)
    have HTx : Hid (strB (strOfNums (byt10 S3).1) = (byt10 S3).1) := strB_of HB.out
    have HFit : Hid (Fits9 (readC9 (byt10 S3).1).1) := readC9_fits _ (by omega)
    generalize byt10 S3 = A at *
    obtain ⟨xs, S4⟩ := A
    dsimp only at kt kr HB HTx HFit HT0 hlen
    generalize readC9 xs = RC at *
    obtain ⟨⟨ck, cs, cq, ckey, cold, cval, cunt, clim⟩, err⟩ := RC
    generalize strOfNums xs = sx at *
    unfold Cmd9.arr at kr
    dsimp only at kr HFit HT0
    clear hlen HB
    go_wp2_with fail
    refine kt.mono ?_
    rintro _ w4 ⟨rfl, hl4⟩
    have h4 := h3.left hl4
    have hcv := Lib.run_convert_string_bytes (P := Tryz.prog) w4 9 22 5 sx (u := .string) Tryz.underlying9 Tryz.underlying22 Tryz.underlying5
    obtain ⟨hH, hb5⟩ := bytes_has w4 sx
    rw [HTx.out] at hH
    have h5 := h4.more hb5
    have k5 := kr.out _ _ hH
    clear kt h3 hl4 h4 hH hb5 c2 hlb kr HTx
    generalize Lib.bytesWorld w4 5 sx = W5 at *
    generalize grownCap w4 sx.size 0 5 = gc at *
    go_wp2_with fail
    refine k5.mono ?_
    rintro _ w6 ⟨rfl, hb6⟩
    have hb7 : Below w6.heap.size w6 (w6.alloc (.cells (Cmd9.mk ck cs cq ckey cold cval cunt clim).arr 25)) := (Below.refl _ _).alloc (Nat.le_refl _) _
    have hbn : CmdAt (w6.alloc (.cells (Cmd9.mk ck cs cq ckey cold cval cunt clim).arr 25)) w6.heap.size ⟨ck, cs, cq, ckey, cold, cval, cunt, clim⟩ := heap_alloc_new w6 _
    have h7 := (h5.more hb6).more hb7
    have hlb6 := box_lt (h5.more hb6).box
    unfold Cmd9.arr at hb7 hbn h7
    dsimp only at hb7 hbn h7
    clear k5 h5 hb6 hb7 hcv
    go_upto_region 7 with fail
    generalize w6.alloc (.cells #[.int .i64 ck, .int .i64 cs, .int .i64 cq, .string ckey, .string cold, .string cval, .string cunt, .int .i64 clim] 25) = W7 at *
    replace hbn : CmdAt W7 w6.heap.size ⟨ck, cs, cq, ckey, cold, cval, cunt, clim⟩ := hbn
    generalize w6.heap.size = bn at *
    by_cases e0 : err = 0
    · have HT : Hid (Tell10 R ⟨z0, z1, 2, ⟨ck, cs, cq, ckey, cold, cval, cunt, clim⟩, noF10⟩ S4) := by
        refine Or.inl ?_
        rw [HT0.out, if_pos e0]
      subst e0
      have h8 := h7
      have hW8 : W7 = W7 := rfl
      revert h8 hbn
      generalize W7 = W8
      intro hbn h8
      clear hW8 h7 HT0
      have c2 := box_cell h8.box 2
      have c3 := box_cell h8.box 3
      have c4 := box_cell h8.box 4
      have c5 := box_cell h8.box 5
      have c6 := box_cell h8.box 6
      have c7 := box_cell h8.box 7
      have c8 := box_cell h8.box 8
      have c9 := box_cell h8.box 9
      have c10 := box_cell h8.box 10
      have fb := frozen9 h8.box
      have hlb := box_lt h8.box
      obtain ⟨q0, q1, q2, q3, q4, q5, q6, q7⟩ := hbn.cells
      dsimp only at q0 q1 q2 q3 q4 q5 q6 q7
      have hlq := box_lt hbn
      go_upto_region 13 with fail
      have hx : RdX w0 w _ rb S4 30 #[.int .i64 z0, .int .i64 z1, .int .i64 2, .int .i64 ck, .int .i64 cs, .int .i64 cq, .string ckey, .string cold, .string cval, .string cunt, .int .i64 clim, .slice none 0 0, .slice none 0 0] #[.int .i64 0, .int .i64 0, .int .i64 0, .int .i64 0, .int .i64 0, .int .i64 0, .string em9, .string em9, .string em9, .string em9, .int .i64 0, .slice none 0 0, .slice none 0 0] := ((((((((h8.put 3 (.int .i64 ck) (by show 3 < 13; omega)).put 4 (.int .i64 cs) (by show 4 < 13; omega)).put 5 (.int .i64 cq) (by show 5 < 13; omega)).put 6 (.string ckey) (by show 6 < 13; omega)).put 7 (.string cold) (by show 7 < 13; omega)).put 8 (.string cval) (by show 8 < 13; omega)).put 9 (.string cunt) (by show 9 < 13; omega)).put 10 (.int .i64 clim) (by show 10 < 13; omega))
      clear h8 c2 c3 c4 c5 c6 c7 c8 c9 c10 fb hlb q0 q1 q2 q3 q4 q5 q6 q7 hlq hbn
      generalize ((((((((W8.setCell ⟨w.heap.size + 1, 3, none⟩ (.int .i64 ck)).setCell ⟨w.heap.size + 1, 4, none⟩ (.int .i64 cs)).setCell ⟨w.heap.size + 1, 5, none⟩ (.int .i64 cq)).setCell ⟨w.heap.size + 1, 6, none⟩ (.string ckey)).setCell ⟨w.heap.size + 1, 7, none⟩ (.string cold)).setCell ⟨w.heap.size + 1, 8, none⟩ (.string cval)).setCell ⟨w.heap.size + 1, 9, none⟩ (.string cunt)).setCell ⟨w.heap.size + 1, 10, none⟩ (.int .i64 clim)) = X6 at *
      have hO : OwnsE X6 (w.heap.size + 1) ⟨z0, z1, 2, ⟨ck, cs, cq, ckey, cold, cval, cunt, clim⟩, noFV⟩ := ⟨HI0.out, HI1.out, ⟨(by decide : (-9223372036854775808 : Int) ≤ 2), (by decide : (2 : Int) ≤ 9223372036854775807)⟩, HFit.out, OwnsF.nil _ _⟩
      have c0 := box_cell hx.box 0
      have c1 := box_cell hx.box 1
      have c2 := box_cell hx.box 2
      have c3 := box_cell hx.box 3
      have c4 := box_cell hx.box 4
      have c5 := box_cell hx.box 5
      have c6 := box_cell hx.box 6
      have c7 := box_cell hx.box 7
      have c8 := box_cell hx.box 8
      have c9 := box_cell hx.box 9
      have c10 := box_cell hx.box 10
      have c11 := box_cell hx.box 11
      have c12 := box_cell hx.box 12
      have d0 := box_cell hx.res 0
      have d1 := box_cell hx.res 1
      have d2 := box_cell hx.res 2
      have d3 := box_cell hx.res 3
      have d4 := box_cell hx.res 4
      have d5 := box_cell hx.res 5
      have d6 := box_cell hx.res 6
      have d7 := box_cell hx.res 7
      have d8 := box_cell hx.res 8
      have d9 := box_cell hx.res 9
      have d10 := box_cell hx.res 10
      have d11 := box_cell hx.res 11
      have d12 := box_cell hx.res 12
      have fb := frozen9 hx.res
      have hlb := box_lt hx.box
      have hlr := box_lt hx.res
      go_wp2
      have hF := fillE (b := w.heap.size) (x0 := noEV) hx.res z0 z1 2 ck cs cq ckey cold cval cunt clim none 0 0 none 0 0 noF10
      have hR9 := ((((((((((((((((((((((((((hx.r).cell (b := w.heap.size) (by omega) (by omega) 0 (.int .i64 z0))).cell (b := w.heap.size) (by omega) (by omega) 1 (.int .i64 z1))).cell (b := w.heap.size) (by omega) (by omega) 2 (.int .i64 2))).cell (b := w.heap.size) (by omega) (by omega) 3 (.int .i64 ck))).cell (b := w.heap.size) (by omega) (by omega) 4 (.int .i64 cs))).cell (b := w.heap.size) (by omega) (by omega) 5 (.int .i64 cq))).cell (b := w.heap.size) (by omega) (by omega) 6 (.string ckey))).cell (b := w.heap.size) (by omega) (by omega) 7 (.string cold))).cell (b := w.heap.size) (by omega) (by omega) 8 (.string cval))).cell (b := w.heap.size) (by omega) (by omega) 9 (.string cunt))).cell (b := w.heap.size) (by omega) (by omega) 10 (.int .i64 clim))).cell (b := w.heap.size) (by omega) (by omega) 11 (.slice none 0 0))).cell (b := w.heap.size) (by omega) (by omega) 12 (.slice none 0 0))
      have hG9 := (grown_new (b := w.heap.size) (grown_new (b := w.heap.size) (grown_new (b := w.heap.size) (grown_new (b := w.heap.size) (grown_new (b := w.heap.size) (grown_new (b := w.heap.size) (grown_new (b := w.heap.size) (grown_new (b := w.heap.size) (grown_new (b := w.heap.size) (grown_new (b := w.heap.size) (grown_new (b := w.heap.size) (grown_new (b := w.heap.size) (grown_new (b := w.heap.size) hx.g (by omega) 0 (.int .i64 z0)) (by omega) 1 (.int .i64 z1)) (by omega) 2 (.int .i64 2)) (by omega) 3 (.int .i64 ck)) (by omega) 4 (.int .i64 cs)) (by omega) 5 (.int .i64 cq)) (by omega) 6 (.string ckey)) (by omega) 7 (.string cold)) (by omega) 8 (.string cval)) (by omega) 9 (.string cunt)) (by omega) 10 (.int .i64 clim)) (by omega) 11 (.slice none 0 0)) (by omega) 12 (.slice none 0 0))
      have hO9 := ((((((((((((((((((((((((((hO).cell (b := w.heap.size) (by omega) 0 (.int .i64 z0))).cell (b := w.heap.size) (by omega) 1 (.int .i64 z1))).cell (b := w.heap.size) (by omega) 2 (.int .i64 2))).cell (b := w.heap.size) (by omega) 3 (.int .i64 ck))).cell (b := w.heap.size) (by omega) 4 (.int .i64 cs))).cell (b := w.heap.size) (by omega) 5 (.int .i64 cq))).cell (b := w.heap.size) (by omega) 6 (.string ckey))).cell (b := w.heap.size) (by omega) 7 (.string cold))).cell (b := w.heap.size) (by omega) 8 (.string cval))).cell (b := w.heap.size) (by omega) 9 (.string cunt))).cell (b := w.heap.size) (by omega) 10 (.int .i64 clim))).cell (b := w.heap.size) (by omega) 11 (.slice none 0 0))).cell (b := w.heap.size) (by omega) 12 (.slice none 0 0))
      exact bodyPost_ret (ret_one rfl _ _ w.heap.size _ _ _ _ rfl hF Tryz.underlying30 rfl (by kernel_rfl)) rfl ⟨⟨z0, z1, 2, ⟨ck, cs, cq, ckey, cold, cval, cunt, clim⟩, noFV⟩, S4, rfl, hO9.mono (by omega), HT.out, hR9, hG9⟩
    · have HT : Hid (Tell10 R ⟨z0, z1, 2, ⟨ck, cs, cq, ckey, cold, cval, cunt, clim⟩, noF10⟩ ([], true)) := by
        refine Or.inl ?_
        rw [HT0.out, if_neg e0]
      have e0' : (err != 0) = true := by simpa using e0
      obtain ⟨v7, hv7⟩ := h7.r.rd
      have r0 := hv7.c0
      have r1 := hv7.c1
      have f0 := hv7.f0
      have f1 := hv7.f1
      have hlr := hv7.lt
      have h8 := h7.left h7.r.off
      have hbn8 : CmdAt _ bn ⟨ck, cs, cq, ckey, cold, cval, cunt, clim⟩ := grown_box h7.r.off.2 hbn (by omega)
      clear hv7 HT0 h7 hbn
      go_upto_region 10 with fail
      have hbn := hbn8
      clear hbn8 r0 r1 f0 f1 hlr
      generalize (W7.setCell ⟨rb, 1, none⟩ (.bool true)).setCell ⟨rb, 0, none⟩ (.slice none 0 0) = W8 at *
      replace hbn : CmdAt W8 bn ⟨ck, cs, cq, ckey, cold, cval, cunt, clim⟩ := hbn
      have c2 := box_cell h8.box 2
      have c3 := box_cell h8.box 3
      have c4 := box_cell h8.box 4
      have c5 := box_cell h8.box 5
      have c6 := box_cell h8.box 6
      have c7 := box_cell h8.box 7
      have c8 := box_cell h8.box 8
      have c9 := box_cell h8.box 9
      have c10 := box_cell h8.box 10
      have fb := frozen9 h8.box
      have hlb := box_lt h8.box
      obtain ⟨q0, q1, q2, q3, q4, q5, q6, q7⟩ := hbn.cells
      dsimp only at q0 q1 q2 q3 q4 q5 q6 q7
      have hlq := box_lt hbn
      go_upto_region 13 with fail
      have hx : RdX w0 w _ rb ([], true) 30 #[.int .i64 z0, .int .i64 z1, .int .i64 2, .int .i64 ck, .int .i64 cs, .int .i64 cq, .string ckey, .string cold, .string cval, .string cunt, .int .i64 clim, .slice none 0 0, .slice none 0 0] #[.int .i64 0, .int .i64 0, .int .i64 0, .int .i64 0, .int .i64 0, .int .i64 0, .string em9, .string em9, .string em9, .string em9, .int .i64 0, .slice none 0 0, .slice none 0 0] := ((((((((h8.put 3 (.int .i64 ck) (by show 3 < 13; omega)).put 4 (.int .i64 cs) (by show 4 < 13; omega)).put 5 (.int .i64 cq) (by show 5 < 13; omega)).put 6 (.string ckey) (by show 6 < 13; omega)).put 7 (.string cold) (by show 7 < 13; omega)).put 8 (.string cval) (by show 8 < 13; omega)).put 9 (.string cunt) (by show 9 < 13; omega)).put 10 (.int .i64 clim) (by show 10 < 13; omega))
      clear h8 c2 c3 c4 c5 c6 c7 c8 c9 c10 fb hlb q0 q1 q2 q3 q4 q5 q6 q7 hlq hbn
      generalize ((((((((W8.setCell ⟨w.heap.size + 1, 3, none⟩ (.int .i64 ck)).setCell ⟨w.heap.size + 1, 4, none⟩ (.int .i64 cs)).setCell ⟨w.heap.size + 1, 5, none⟩ (.int .i64 cq)).setCell ⟨w.heap.size + 1, 6, none⟩ (.string ckey)).setCell ⟨w.heap.size + 1, 7, none⟩ (.string cold)).setCell ⟨w.heap.size + 1, 8, none⟩ (.string cval)).setCell ⟨w.heap.size + 1, 9, none⟩ (.string cunt)).setCell ⟨w.heap.size + 1, 10, none⟩ (.int .i64 clim)) = X6 at *
      have hO : OwnsE X6 (w.heap.size + 1) ⟨z0, z1, 2, ⟨ck, cs, cq, ckey, cold, cval, cunt, clim⟩, noFV⟩ := ⟨HI0.out, HI1.out, ⟨(by decide : (-9223372036854775808 : Int) ≤ 2), (by decide : (2 : Int) ≤ 9223372036854775807)⟩, HFit.out, OwnsF.nil _ _⟩
      have c0 := box_cell hx.box 0
      have c1 := box_cell hx.box 1
      have c2 := box_cell hx.box 2
      have c3 := box_cell hx.box 3
      have c4 := box_cell hx.box 4
      have c5 := box_cell hx.box 5
      have c6 := box_cell hx.box 6
      have c7 := box_cell hx.box 7
      have c8 := box_cell hx.box 8
      have c9 := box_cell hx.box 9
      have c10 := box_cell hx.box 10
      have c11 := box_cell hx.box 11
      have c12 := box_cell hx.box 12
      have d0 := box_cell hx.res 0
      have d1 := box_cell hx.res 1
      have d2 := box_cell hx.res 2
      have d3 := box_cell hx.res 3
      have d4 := box_cell hx.res 4
      have d5 := box_cell hx.res 5
      have d6 := box_cell hx.res 6
      have d7 := box_cell hx.res 7
      have d8 := box_cell hx.res 8
      have d9 := box_cell hx.res 9
      have d10 := box_cell hx.res 10
      have d11 := box_cell hx.res 11
      have d12 := box_cell hx.res 12
      have fb := frozen9 hx.res
      have hlb := box_lt hx.box
      have hlr := box_lt hx.res
      go_wp2
      have hF := fillE (b := w.heap.size) (x0 := noEV) hx.res z0 z1 2 ck cs cq ckey cold cval cunt clim none 0 0 none 0 0 noF10
      have hR9 := ((((((((((((((((((((((((((hx.r).cell (b := w.heap.size) (by omega) (by omega) 0 (.int .i64 z0))).cell (b := w.heap.size) (by omega) (by omega) 1 (.int .i64 z1))).cell (b := w.heap.size) (by omega) (by omega) 2 (.int .i64 2))).cell (b := w.heap.size) (by omega) (by omega) 3 (.int .i64 ck))).cell (b := w.heap.size) (by omega) (by omega) 4 (.int .i64 cs))).cell (b := w.heap.size) (by omega) (by omega) 5 (.int .i64 cq))).cell (b := w.heap.size) (by omega) (by omega) 6 (.string ckey))).cell (b := w.heap.size) (by omega) (by omega) 7 (.string cold))).cell (b := w.heap.size) (by omega) (by omega) 8 (.string cval))).cell (b := w.heap.size) (by omega) (by omega) 9 (.string cunt))).cell (b := w.heap.size) (by omega) (by omega) 10 (.int .i64 clim))).cell (b := w.heap.size) (by omega) (by omega) 11 (.slice none 0 0))).cell (b := w.heap.size) (by omega) (by omega) 12 (.slice none 0 0))
      have hG9 := (grown_new (b := w.heap.size) (grown_new (b := w.heap.size) (grown_new (b := w.heap.size) (grown_new (b := w.heap.size) (grown_new (b := w.heap.size) (grown_new (b := w.heap.size) (grown_new (b := w.heap.size) (grown_new (b := w.heap.size) (grown_new (b := w.heap.size) (grown_new (b := w.heap.size) (grown_new (b := w.heap.size) (grown_new (b := w.heap.size) (grown_new (b := w.heap.size) hx.g (by omega) 0 (.int .i64 z0)) (by omega) 1 (.int .i64 z1)) (by omega) 2 (.int .i64 2)) (by omega) 3 (.int .i64 ck)) (by omega) 4 (.int .i64 cs)) (by omega) 5 (.int .i64 cq)) (by omega) 6 (.string ckey)) (by omega) 7 (.string cold)) (by omega) 8 (.string cval)) (by omega) 9 (.string cunt)) (by omega) 10 (.int .i64 clim)) (by omega) 11 (.slice none 0 0)) (by omega) 12 (.slice none 0 0))
      have hO9 := ((((((((((((((((((((((((((hO).cell (b := w.heap.size) (by omega) 0 (.int .i64 z0))).cell (b := w.heap.size) (by omega) 1 (.int .i64 z1))).cell (b := w.heap.size) (by omega) 2 (.int .i64 2))).cell (b := w.heap.size) (by omega) 3 (.int .i64 ck))).cell (b := w.heap.size) (by omega) 4 (.int .i64 cs))).cell (b := w.heap.size) (by omega) 5 (.int .i64 cq))).cell (b := w.heap.size) (by omega) 6 (.string ckey))).cell (b := w.heap.size) (by omega) 7 (.string cold))).cell (b := w.heap.size) (by omega) 8 (.string cval))).cell (b := w.heap.size) (by omega) 9 (.string cunt))).cell (b := w.heap.size) (by omega) 10 (.int .i64 clim))).cell (b := w.heap.size) (by omega) 11 (.slice none 0 0))).cell (b := w.heap.size) (by omega) 12 (.slice none 0 0))
      exact bodyPost_ret (ret_one rfl _ _ w.heap.size _ _ _ _ rfl hF Tryz.underlying30 rfl (by kernel_rfl)) rfl ⟨⟨z0, z1, 2, ⟨ck, cs, cq, ckey, cold, cval, cunt, clim⟩, noFV⟩, ([], true), rfl, hO9.mono (by omega), HT.out, hR9, hG9⟩
  have e2' : (z2 == 2) = false := by simpa using e2
  by_cases e3 : z2 = 3
  · have HT0 : Hid (∀ f S', Tell10 (conf10 1000000 S3) f S' → Tell10 R ⟨z0, z1, 3, zeroC9, f⟩ S') := fun f S' ht => by
      rw [HC.out, e3, tail10_conf]
      exact Tell10.bind ht (.inl rfl) (fun _ => Stays.ret _) id
    have kc := rconfR_any w0 X2 rb S3 h3.r
    subst e3
    clear HC e2 e2'
    go_wp2_with fail
    refine kc.mono ?_
    rintro _ y5 ⟨X, S4, rfl, hO5, hT5, hl5⟩
    have h5 := h3.left hl5
    have HT1 : Hid (Tell10 R ⟨z0, z1, 3, zeroC9, X.f⟩ S4) := HT0.out _ _ hT5
    have hbl4 := box_lt h3.box
    clear kc h3 hl5 c2 hlb hT5 HT0
    obtain ⟨⟨p, n, c⟩, ⟨q, m, d⟩, f⟩ := X
    unfold ConfV.arr
    dsimp only
    have c11 := box_cell h5.box 11
    have c12 := box_cell h5.box 12
    have fb := frozen9 h5.box
    have hlb := box_lt h5.box
    go_upto_region 13 with fail
    have hx : RdX w0 w _ rb S4 30 #[.int .i64 z0, .int .i64 z1, .int .i64 3, .int .i64 0, .int .i64 0, .int .i64 0, .string em9, .string em9, .string em9, .string em9, .int .i64 0, .slice p n c, .slice q m d] #[.int .i64 0, .int .i64 0, .int .i64 0, .int .i64 0, .int .i64 0, .int .i64 0, .string em9, .string em9, .string em9, .string em9, .int .i64 0, .slice none 0 0, .slice none 0 0] := (h5.put 11 (.slice p n c) (by show 11 < 13; omega)).put 12 (.slice q m d) (by show 12 < 13; omega)
    have hO0 := ((hO5.cell (b := w.heap.size + 1) (by omega) 11 (.slice p n c)).cell (b := w.heap.size + 1) (by omega) 12 (.slice q m d)).mono (B' := w.heap.size + 1) (by omega)
    clear h5 hO5 c11 c12 fb hlb
    generalize (y5.setCell ⟨w.heap.size + 1, 11, none⟩ (.slice p n c)).setCell ⟨w.heap.size + 1, 12, none⟩ (.slice q m d) = X6 at *
    have hO : OwnsE X6 (w.heap.size + 1) ⟨z0, z1, 3, zeroC9, ⟨⟨p, n, c⟩, ⟨q, m, d⟩, f⟩⟩ := ⟨HI0.out, HI1.out, ⟨(by decide : (-9223372036854775808 : Int) ≤ 3), (by decide : (3 : Int) ≤ 9223372036854775807)⟩, fits_zeroC, hO0⟩
    clear hO0
    have c0 := box_cell hx.box 0
    have c1 := box_cell hx.box 1
    have c2 := box_cell hx.box 2
    have c3 := box_cell hx.box 3
    have c4 := box_cell hx.box 4
    have c5 := box_cell hx.box 5
    have c6 := box_cell hx.box 6
    have c7 := box_cell hx.box 7
    have c8 := box_cell hx.box 8
    have c9 := box_cell hx.box 9
    have c10 := box_cell hx.box 10
    have c11 := box_cell hx.box 11
    have c12 := box_cell hx.box 12
    have d0 := box_cell hx.res 0
    have d1 := box_cell hx.res 1
    have d2 := box_cell hx.res 2
    have d3 := box_cell hx.res 3
    have d4 := box_cell hx.res 4
    have d5 := box_cell hx.res 5
    have d6 := box_cell hx.res 6
    have d7 := box_cell hx.res 7
    have d8 := box_cell hx.res 8
    have d9 := box_cell hx.res 9
    have d10 := box_cell hx.res 10
    have d11 := box_cell hx.res 11
    have d12 := box_cell hx.res 12
    have fb := frozen9 hx.res
    have hlb := box_lt hx.box
    have hlr := box_lt hx.res
    go_wp2
    have hF := fillE (b := w.heap.size) (x0 := noEV) hx.res z0 z1 3 0 0 0 em9 em9 em9 em9 0 p n c q m d f
    have hR9 := ((((((((((((((((((((((((((hx.r).cell (b := w.heap.size) (by omega) (by omega) 0 (.int .i64 z0))).cell (b := w.heap.size) (by omega) (by omega) 1 (.int .i64 z1))).cell (b := w.heap.size) (by omega) (by omega) 2 (.int .i64 3))).cell (b := w.heap.size) (by omega) (by omega) 3 (.int .i64 0))).cell (b := w.heap.size) (by omega) (by omega) 4 (.int .i64 0))).cell (b := w.heap.size) (by omega) (by omega) 5 (.int .i64 0))).cell (b := w.heap.size) (by omega) (by omega) 6 (.string em9))).cell (b := w.heap.size) (by omega) (by omega) 7 (.string em9))).cell (b := w.heap.size) (by omega) (by omega) 8 (.string em9))).cell (b := w.heap.size) (by omega) (by omega) 9 (.string em9))).cell (b := w.heap.size) (by omega) (by omega) 10 (.int .i64 0))).cell (b := w.heap.size) (by omega) (by omega) 11 (.slice p n c))).cell (b := w.heap.size) (by omega) (by omega) 12 (.slice q m d))
    have hG9 := (grown_new (b := w.heap.size) (grown_new (b := w.heap.size) (grown_new (b := w.heap.size) (grown_new (b := w.heap.size) (grown_new (b := w.heap.size) (grown_new (b := w.heap.size) (grown_new (b := w.heap.size) (grown_new (b := w.heap.size) (grown_new (b := w.heap.size) (grown_new (b := w.heap.size) (grown_new (b := w.heap.size) (grown_new (b := w.heap.size) (grown_new (b := w.heap.size) hx.g (by omega) 0 (.int .i64 z0)) (by omega) 1 (.int .i64 z1)) (by omega) 2 (.int .i64 3)) (by omega) 3 (.int .i64 0)) (by omega) 4 (.int .i64 0)) (by omega) 5 (.int .i64 0)) (by omega) 6 (.string em9)) (by omega) 7 (.string em9)) (by omega) 8 (.string em9)) (by omega) 9 (.string em9)) (by omega) 10 (.int .i64 0)) (by omega) 11 (.slice p n c)) (by omega) 12 (.slice q m d))
    have hO9 := ((((((((((((((((((((((((((hO).cell (b := w.heap.size) (by omega) 0 (.int .i64 z0))).cell (b := w.heap.size) (by omega) 1 (.int .i64 z1))).cell (b := w.heap.size) (by omega) 2 (.int .i64 3))).cell (b := w.heap.size) (by omega) 3 (.int .i64 0))).cell (b := w.heap.size) (by omega) 4 (.int .i64 0))).cell (b := w.heap.size) (by omega) 5 (.int .i64 0))).cell (b := w.heap.size) (by omega) 6 (.string em9))).cell (b := w.heap.size) (by omega) 7 (.string em9))).cell (b := w.heap.size) (by omega) 8 (.string em9))).cell (b := w.heap.size) (by omega) 9 (.string em9))).cell (b := w.heap.size) (by omega) 10 (.int .i64 0))).cell (b := w.heap.size) (by omega) 11 (.slice p n c))).cell (b := w.heap.size) (by omega) 12 (.slice q m d))
    exact bodyPost_ret (ret_one rfl _ _ w.heap.size _ _ _ _ rfl hF Tryz.underlying30 rfl (by kernel_rfl)) rfl ⟨⟨z0, z1, 3, zeroC9, ⟨⟨p, n, c⟩, ⟨q, m, d⟩, f⟩⟩, S4, rfl, hO9.mono (by omega), HT1.out, hR9, hG9⟩
  have e3' : (z2 == 3) = false := by simpa using e3
  have HT : Hid (Tell10 R ⟨z0, z1, z2, zeroC9, noF10⟩ S3) := by
    refine Or.inl ?_
    rw [HC.out, tail10_else _ _ _ _ _ e2 e3]
  clear HC e2 e3 c2 hlb
  have hx := h3
  have c2 := box_cell hx.box 2
  have hlb := box_lt hx.box
  go_upto_region 13 with fail
  have hO : OwnsE X2 (w.heap.size + 1) ⟨z0, z1, z2, zeroC9, noFV⟩ := ⟨HI0.out, HI1.out, HI2.out, fits_zeroC, OwnsF.nil _ _⟩
  clear c2 hlb h3
  have c0 := box_cell hx.box 0
  have c1 := box_cell hx.box 1
  have c2 := box_cell hx.box 2
  have c3 := box_cell hx.box 3
  have c4 := box_cell hx.box 4
  have c5 := box_cell hx.box 5
  have c6 := box_cell hx.box 6
  have c7 := box_cell hx.box 7
  have c8 := box_cell hx.box 8
  have c9 := box_cell hx.box 9
  have c10 := box_cell hx.box 10
  have c11 := box_cell hx.box 11
  have c12 := box_cell hx.box 12
  have d0 := box_cell hx.res 0
  have d1 := box_cell hx.res 1
  have d2 := box_cell hx.res 2
  have d3 := box_cell hx.res 3
  have d4 := box_cell hx.res 4
  have d5 := box_cell hx.res 5
  have d6 := box_cell hx.res 6
  have d7 := box_cell hx.res 7
  have d8 := box_cell hx.res 8
  have d9 := box_cell hx.res 9
  have d10 := box_cell hx.res 10
  have d11 := box_cell hx.res 11
  have d12 := box_cell hx.res 12
  have fb := frozen9 hx.res
  have hlb := box_lt hx.box
  have hlr := box_lt hx.res
  go_wp2
  have hF := fillE (b := w.heap.size) (x0 := noEV) hx.res z0 z1 z2 0 0 0 em9 em9 em9 em9 0 none 0 0 none 0 0 noF10
  have hR9 := ((((((((((((((((((((((((((hx.r).cell (b := w.heap.size) (by omega) (by omega) 0 (.int .i64 z0))).cell (b := w.heap.size) (by omega) (by omega) 1 (.int .i64 z1))).cell (b := w.heap.size) (by omega) (by omega) 2 (.int .i64 z2))).cell (b := w.heap.size) (by omega) (by omega) 3 (.int .i64 0))).cell (b := w.heap.size) (by omega) (by omega) 4 (.int .i64 0))).cell (b := w.heap.size) (by omega) (by omega) 5 (.int .i64 0))).cell (b := w.heap.size) (by omega) (by omega) 6 (.string em9))).cell (b := w.heap.size) (by omega) (by omega) 7 (.string em9))).cell (b := w.heap.size) (by omega) (by omega) 8 (.string em9))).cell (b := w.heap.size) (by omega) (by omega) 9 (.string em9))).cell (b := w.heap.size) (by omega) (by omega) 10 (.int .i64 0))).cell (b := w.heap.size) (by omega) (by omega) 11 (.slice none 0 0))).cell (b := w.heap.size) (by omega) (by omega) 12 (.slice none 0 0))
  have hG9 := (grown_new (b := w.heap.size) (grown_new (b := w.heap.size) (grown_new (b := w.heap.size) (grown_new (b := w.heap.size) (grown_new (b := w.heap.size) (grown_new (b := w.heap.size) (grown_new (b := w.heap.size) (grown_new (b := w.heap.size) (grown_new (b := w.heap.size) (grown_new (b := w.heap.size) (grown_new (b := w.heap.size) (grown_new (b := w.heap.size) (grown_new (b := w.heap.size) hx.g (by omega) 0 (.int .i64 z0)) (by omega) 1 (.int .i64 z1)) (by omega) 2 (.int .i64 z2)) (by omega) 3 (.int .i64 0)) (by omega) 4 (.int .i64 0)) (by omega) 5 (.int .i64 0)) (by omega) 6 (.string em9)) (by omega) 7 (.string em9)) (by omega) 8 (.string em9)) (by omega) 9 (.string em9)) (by omega) 10 (.int .i64 0)) (by omega) 11 (.slice none 0 0)) (by omega) 12 (.slice none 0 0))
  have hO9 := ((((((((((((((((((((((((((hO).cell (b := w.heap.size) (by omega) 0 (.int .i64 z0))).cell (b := w.heap.size) (by omega) 1 (.int .i64 z1))).cell (b := w.heap.size) (by omega) 2 (.int .i64 z2))).cell (b := w.heap.size) (by omega) 3 (.int .i64 0))).cell (b := w.heap.size) (by omega) 4 (.int .i64 0))).cell (b := w.heap.size) (by omega) 5 (.int .i64 0))).cell (b := w.heap.size) (by omega) 6 (.string em9))).cell (b := w.heap.size) (by omega) 7 (.string em9))).cell (b := w.heap.size) (by omega) 8 (.string em9))).cell (b := w.heap.size) (by omega) 9 (.string em9))).cell (b := w.heap.size) (by omega) 10 (.int .i64 0))).cell (b := w.heap.size) (by omega) 11 (.slice none 0 0))).cell (b := w.heap.size) (by omega) 12 (.slice none 0 0))
  exact bodyPost_ret (ret_one rfl _ _ w.heap.size _ _ _ _ rfl hF Tryz.underlying30 rfl (by kernel_rfl)) rfl ⟨⟨z0, z1, z2, zeroC9, noFV⟩, S3, rfl, hO9.mono (by omega), HT.out, hR9, hG9⟩
end Go.Proofs.YtnbaoimjcaeeaaaGreat
