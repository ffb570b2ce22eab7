/-
  Contracts: entry.whole and what reads of bytes: Read, ReadHard, ReadSnap.
-/
import Derived.Test.YtnbaoimjcaeeaaaEo4To
namespace Go.Proofs.Ytnbaoimjcaeeaaa
open Go.RowKit Go.Shelf

theorem pent10_in (S : St) : inI (pent10 S).1.i ∧ inI (pent10 S).1.t ∧ inI (pent10 S).1.k := by
  rw [pent10_is]
  have h0 := int9_in S
  have h1 := int9_in (int9 S).2
  have h2 := int9_in (int9 (int9 S).2).2
  generalize (int9 S).1 = a at *
  generalize (int9 (int9 S).2).1 = b at *
  generalize (int9 (int9 (int9 S).2).2).1 = c at *
  generalize (int9 (int9 (int9 S).2).2).2 = T at *
  by_cases e2 : c = 2
  · rw [e2, ptail10_cmd]; rw [e2] at h2; exact ⟨h0, h1, h2⟩
  by_cases e3 : c = 3
  · rw [e3, ptail10_conf]; rw [e3] at h2; exact ⟨h0, h1, h2⟩
  rw [ptail10_else _ _ _ _ e2 e3]
  exact ⟨h0, h1, h2⟩
/-- An entry that the call made. -/
structure OwnsE (w : World) (B : Nat) (x : EntV) : Prop where
  i : inI x.i
  t : inI x.t
  k : inI x.k
  c : Fits9 x.c
  f : OwnsF w B x.f
theorem OwnsE.fits {w : World} {B : Nat} {x : EntV} (h : OwnsE w B x) : FitsE w x := ⟨h.i, h.t, h.k, h.c, h.f.fits⟩
theorem OwnsE.mono {w : World} {B B' : Nat} {x : EntV} (h : OwnsE w B x) (hB : B' ≤ B) : OwnsE w B' x := ⟨h.i, h.t, h.k, h.c, h.f.mono hB⟩
theorem OwnsE.kept {w w' : World} {B r : Nat} {x : EntV} (h : OwnsE w B x) (hg : w.grownBy w' (some r)) (hr : r < B) : OwnsE w' B x := ⟨h.i, h.t, h.k, h.c, h.f.kept hg hr⟩
theorem OwnsE.cell {w : World} {B b : Nat} {x : EntV} (h : OwnsE w B x) (hb : b < B) (i : Nat) (v : Value) : OwnsE (w.setCell ⟨b, i, none⟩ v) B x := h.kept (grown_set w b i v) hb
theorem OwnsE.below {w w' : World} {B : Nat} {x : EntV} (h : OwnsE w B x) (hb : Below w.heap.size w w') : OwnsE w' B x := ⟨h.i, h.t, h.k, h.c, h.f.below hb⟩
theorem OwnsE.nil (w : World) (B : Nat) : OwnsE w B noEV := ⟨⟨by decide, by decide⟩, ⟨by decide, by decide⟩, ⟨by decide, by decide⟩, fits_zeroC, OwnsF.nil w B⟩
theorem partE_any (w0 w : World) (rb : Nat) (S : St) (h : Rdr w0 w rb S) :
    Calls Try.prog 50 #[.pointer (some ⟨rb, 0, none⟩)] w fun e w' => ∃ X : EntV, e = .returned (.agg X.arr) ∧ X.e = (pent10 S).1 ∧ OwnsE w' w.heap.size X ∧ Left10 w0 w rb (pent10 S).2 w' := by
  refine (entryR_any w0 w rb S h).mono ?_
  rintro e w' ⟨X, rfl, hX, hO, hC, hL⟩
  have hi := pent10_in S
  rw [← hX] at hi
  exact ⟨X, rfl, hX, ⟨hi.1, hi.2.1, hi.2.2, hC, hO⟩, hL⟩

/-- Numbers alone. -/
structure OwnsH (w : World) (B : Nat) (x : Hard10) : Prop where
  fits : FitsH x
  here : w.heap.size = w.heap.size ∧ B = B
theorem OwnsH.mono {w : World} {B B' : Nat} {x : Hard10} (h : OwnsH w B x) (_ : B' ≤ B) : OwnsH w B' x := ⟨h.fits, rfl, rfl⟩
theorem OwnsH.kept {w w' : World} {B r : Nat} {x : Hard10} (h : OwnsH w B x) (_ : w.grownBy w' (some r)) (_ : r < B) : OwnsH w' B x := ⟨h.fits, rfl, rfl⟩
theorem OwnsH.cell {w : World} {B b : Nat} {x : Hard10} (h : OwnsH w B x) (_ : b < B) (i : Nat) (v : Value) : OwnsH (w.setCell ⟨b, i, none⟩ v) B x := ⟨h.fits, rfl, rfl⟩
theorem OwnsH.below {w w' : World} {B : Nat} {x : Hard10} (h : OwnsH w B x) (_ : Below w.heap.size w w') : OwnsH w' B x := ⟨h.fits, rfl, rfl⟩
def noH10 : Hard10 := ⟨0, 0, 0⟩
def Hard10.e (x : Hard10) : Hard10 := x
theorem OwnsH.nil (w : World) (B : Nat) : OwnsH w B noH10 := ⟨⟨⟨by decide, by decide⟩, ⟨by decide, by decide⟩, ⟨by decide, by decide⟩⟩, rfl, rfl⟩
theorem partH_any (w0 w : World) (rb : Nat) (S : St) (h : Rdr w0 w rb S) :
    Calls Try.prog 52 #[.pointer (some ⟨rb, 0, none⟩)] w fun e w' => ∃ X : Hard10, e = .returned (.agg X.arr) ∧ X.e = (hard10 S).1 ∧ OwnsH w' w.heap.size X ∧ Left10 w0 w rb (hard10 S).2 w' := by
  refine (hardR_any w0 w rb S h).mono ?_
  rintro e w' ⟨rfl, hL⟩
  exact ⟨(hard10 S).1, rfl, rfl, ⟨by rw [hard10_is]; exact ⟨int9_in _, int9_in _, int9_in _⟩, rfl, rfl⟩, hL⟩

set_option maxRecDepth 100000 in
set_option maxHeartbeats 4000000 in
theorem wholeH_any (w0 w : World) (rb : Nat) (S : St) (h : Rdr w0 w rb S) :
    Calls Try.prog 51 #[.pointer (some ⟨rb, 0, none⟩), .func (.func 52) #[.pointer (some ⟨rb, 0, none⟩)] #[], .func (.func 53) #[] #[]] w fun e w' => ∃ X : Hard10, e = .returned (.tuple #[.agg X.arr, .int .i64 (whole10 goodH10 noH10 (hard10 S)).2]) ∧ X.e = (whole10 goodH10 noH10 (hard10 S)).1 ∧ OwnsH w' w.heap.size X ∧ Below w0.heap.size w0 w' ∧ w.grownBy w' (some rb) := by
  have hb1 : Below w.heap.size w (w.alloc (.cells #[.int .i64 0, .int .i64 0, .int .i64 0] 41)) := (Below.refl _ _).alloc (Nat.le_refl _) _
  have hbox : HardAt (w.alloc (.cells #[.int .i64 0, .int .i64 0, .int .i64 0] 41)) w.heap.size noH10 := heap_alloc_new w _
  have hz1 : (w.alloc (.cells #[.int .i64 0, .int .i64 0, .int .i64 0] 41)).heap.size = w.heap.size + 1 := by simp
  have hrl := h.lt
  have k1 := partH_any w0 _ rb S (h.more hb1)
  have HW0 : Hid (whole10 goodH10 noH10 (hard10 S) = if ((hard10 S).2.1.isEmpty && !(hard10 S).2.2) && goodH10 (hard10 S).1 then ((hard10 S).1, 0) else (noH10, 8)) := rfl
  generalize whole10 goodH10 noH10 (hard10 S) = R at *
  generalize hard10 S = A at *
  obtain ⟨x0, S1⟩ := A
  dsimp only at k1 HW0
  clear h
  go_enter Try.func51, Try.ntmps51
  go_wp2_with fail
  generalize w.alloc (.cells #[.int .i64 0, .int .i64 0, .int .i64 0] 41) = W1 at *
  refine k1.mono ?_
  rintro _ w2 ⟨X, rfl, hX, hM, hR2, hg2⟩
  have hbox2 : HardAt w2 w.heap.size noH10 := grown_box hg2 hbox (by omega)
  have hG2 := grown_after hb1 hg2
  have hsz2 := hg2.size
  have hb3 : Below w2.heap.size w2 (w2.alloc (.cells X.arr 41)) := (Below.refl _ _).alloc (Nat.le_refl _) _
  have hbn3 : HardAt (w2.alloc (.cells X.arr 41)) w2.heap.size X := heap_alloc_new w2 _
  have hbox3 := box_below hbox2 hb3
  have hR3 := hR2.more hb3
  have hG3 := grown_trans hG2 (below_grownBy hb3)
  have hM3 := hM.below hb3
  have kg : Calls Try.prog 53 #[.agg X.arr] (w2.alloc (.cells X.arr 41)) fun e w' => e = .returned (.bool (goodH10 X.e)) ∧ Below (w2.alloc (.cells X.arr 41)).heap.size (w2.alloc (.cells X.arr 41)) w' := (fun W _ => goodHard_any X W) _ hM3.fits
  have kf := hR3.fin
  have HX : Hid (X.e = x0) := hX
  rw [hX] at kg
  clear k1 hbox hR2 hg2 hbox2 hG2 hb3 hM hX
  generalize hgx : goodH10 x0 = gx at *
  have HGX : Hid (goodH10 x0 = gx) := hgx
  clear hgx
  obtain ⟨ht, hv, hc⟩ := X
  unfold Hard10.arr at *
  dsimp only at *
  go_wp2_with fail
  generalize w2.alloc (.cells #[.int .i64 ht, .int .i64 hv, .int .i64 hc] 41) = W3 at *
  generalize w2.heap.size = bx at *
  generalize hfi : (S1.1.isEmpty && !S1.2) = fi at *
  cases fi with
  | false =>
    have HW : Hid (R = (noH10, 8)) := by rw [Hid, HW0.out]; rfl
    clear HW0
    refine same_mono kf ?_
    have hbn : Below W3.heap.size W3 (W3.alloc (.cells #[.int .i64 0, .int .i64 0, .int .i64 0] 41)) := (Below.refl _ _).alloc (Nat.le_refl _) _
    have hbx : HardAt (W3.alloc (.cells #[.int .i64 0, .int .i64 0, .int .i64 0] 41)) w.heap.size noH10 := box_below hbox3 hbn
    have hnn : HardAt (W3.alloc (.cells #[.int .i64 0, .int .i64 0, .int .i64 0] 41)) W3.heap.size noH10 := heap_alloc_new W3 _
    have hRn := hR3.more hbn
    have hGn := grown_trans hG3 (below_grownBy hbn)
    have d0 := box_cell hbx 0
    have d1 := box_cell hbx 1
    have d2 := box_cell hbx 2
    have fb := frozen9 hbx
    have hlr := box_lt hbx
    have e0 := box_cell hnn 0
    have e1 := box_cell hnn 1
    have e2 := box_cell hnn 2
    have hln := box_lt hnn
    have hMn := OwnsH.nil (W3.alloc (.cells #[.int .i64 0, .int .i64 0, .int .i64 0] 41)) (w.heap.size + 1)
    dsimp only [Hard10.arr, noH10] at d0 d1 d2 e0 e1 e2
    go_upto_region 4 with fail
    generalize W3.alloc (.cells #[.int .i64 0, .int .i64 0, .int .i64 0] 41) = W9 at *
    generalize W3.heap.size = nb at *
    go_wp2
    have hF := fillH (b := w.heap.size) (x0 := noH10) hbx 0 0 0 
    have hR9 := ((((((hRn).cell (b := w.heap.size) (by omega) (by omega) 0 (.int .i64 0))).cell (b := w.heap.size) (by omega) (by omega) 1 (.int .i64 0))).cell (b := w.heap.size) (by omega) (by omega) 2 (.int .i64 0))
    have hG9 := (grown_new (b := w.heap.size) (grown_new (b := w.heap.size) (grown_new (b := w.heap.size) hGn (by omega) 0 (.int .i64 0)) (by omega) 1 (.int .i64 0)) (by omega) 2 (.int .i64 0))
    have hO9 := ((((((hMn).cell (b := w.heap.size) (by omega) 0 (.int .i64 0))).cell (b := w.heap.size) (by omega) 1 (.int .i64 0))).cell (b := w.heap.size) (by omega) 2 (.int .i64 0))
    refine bodyPost_ret (ret_cell9 rfl _ _ w.heap.size _ _ _ _ rfl hF Try.underlying41 rfl (by kernel_rfl)) rfl ⟨noH10, ?_, ?_, hO9.mono (by omega), hR9.bel, hG9⟩
    · rw [HW.out]; rfl
    · rw [HW.out]; rfl
  | true =>
    refine same_mono kf ?_
    clear kf
    replace hbn3 : HardAt W3 bx ⟨ht, hv, hc⟩ := hbn3
    have c0 := box_cell hbn3 0
    have c1 := box_cell hbn3 1
    have c2 := box_cell hbn3 2
    have hlx := box_lt hbn3
    dsimp only [Hard10.arr] at c0 c1 c2
    go_wp2_with fail
    refine kg.mono ?_
    rintro _ w4 ⟨rfl, hb4⟩
    have hbx4 : HardAt w4 bx ⟨ht, hv, hc⟩ := box_below hbn3 hb4
    have hbox4 : HardAt w4 w.heap.size noH10 := box_below hbox3 hb4
    have hR4 := hR3.more hb4
    have hG4 := grown_trans hG3 (below_grownBy hb4)
    have hM4 := hM3.below hb4
    clear kg hbn3 hbox3 hR3 hG3 hM3 hb4 c0 c1 c2 hlx
    cases gx with
    | false =>
      have HW : Hid (R = (noH10, 8)) := by rw [Hid, HW0.out]; rfl
      clear HW0
      have hbn : Below w4.heap.size w4 (w4.alloc (.cells #[.int .i64 0, .int .i64 0, .int .i64 0] 41)) := (Below.refl _ _).alloc (Nat.le_refl _) _
      have hbx : HardAt (w4.alloc (.cells #[.int .i64 0, .int .i64 0, .int .i64 0] 41)) w.heap.size noH10 := box_below hbox4 hbn
      have hnn : HardAt (w4.alloc (.cells #[.int .i64 0, .int .i64 0, .int .i64 0] 41)) w4.heap.size noH10 := heap_alloc_new w4 _
      have hRn := hR4.more hbn
      have hGn := grown_trans hG4 (below_grownBy hbn)
      have d0 := box_cell hbx 0
      have d1 := box_cell hbx 1
      have d2 := box_cell hbx 2
      have fb := frozen9 hbx
      have hlr := box_lt hbx
      have e0 := box_cell hnn 0
      have e1 := box_cell hnn 1
      have e2 := box_cell hnn 2
      have hln := box_lt hnn
      have hMn := OwnsH.nil (w4.alloc (.cells #[.int .i64 0, .int .i64 0, .int .i64 0] 41)) (w.heap.size + 1)
      dsimp only [Hard10.arr, noH10] at d0 d1 d2 e0 e1 e2
      go_upto_region 4 with fail
      generalize w4.alloc (.cells #[.int .i64 0, .int .i64 0, .int .i64 0] 41) = W9 at *
      generalize w4.heap.size = nb at *
      go_wp2
      have hF := fillH (b := w.heap.size) (x0 := noH10) hbx 0 0 0 
      have hR9 := ((((((hRn).cell (b := w.heap.size) (by omega) (by omega) 0 (.int .i64 0))).cell (b := w.heap.size) (by omega) (by omega) 1 (.int .i64 0))).cell (b := w.heap.size) (by omega) (by omega) 2 (.int .i64 0))
      have hG9 := (grown_new (b := w.heap.size) (grown_new (b := w.heap.size) (grown_new (b := w.heap.size) hGn (by omega) 0 (.int .i64 0)) (by omega) 1 (.int .i64 0)) (by omega) 2 (.int .i64 0))
      have hO9 := ((((((hMn).cell (b := w.heap.size) (by omega) 0 (.int .i64 0))).cell (b := w.heap.size) (by omega) 1 (.int .i64 0))).cell (b := w.heap.size) (by omega) 2 (.int .i64 0))
      refine bodyPost_ret (ret_cell9 rfl _ _ w.heap.size _ _ _ _ rfl hF Try.underlying41 rfl (by kernel_rfl)) rfl ⟨noH10, ?_, ?_, hO9.mono (by omega), hR9.bel, hG9⟩
      · rw [HW.out]; rfl
      · rw [HW.out]; rfl
    | true =>
      have HW : Hid (R = (x0, 0)) := by rw [Hid, HW0.out]; rfl
      clear HW0
      have c0 := box_cell hbx4 0
      have c1 := box_cell hbx4 1
      have c2 := box_cell hbx4 2
      have d0 := box_cell hbox4 0
      have d1 := box_cell hbox4 1
      have d2 := box_cell hbox4 2
      dsimp only [Hard10.arr, noH10] at c0 c1 c2 d0 d1 d2
      have hlx := box_lt hbx4
      have hlr := box_lt hbox4
      have fb := frozen9 hbox4
      go_wp2
      have hF := fillH (b := w.heap.size) (x0 := noH10) hbox4 ht hv hc 
      have hR9 := ((((((hR4).cell (b := w.heap.size) (by omega) (by omega) 0 (.int .i64 ht))).cell (b := w.heap.size) (by omega) (by omega) 1 (.int .i64 hv))).cell (b := w.heap.size) (by omega) (by omega) 2 (.int .i64 hc))
      have hG9 := (grown_new (b := w.heap.size) (grown_new (b := w.heap.size) (grown_new (b := w.heap.size) hG4 (by omega) 0 (.int .i64 ht)) (by omega) 1 (.int .i64 hv)) (by omega) 2 (.int .i64 hc))
      have hO9 := ((((((hM4).cell (b := w.heap.size) (by omega) 0 (.int .i64 ht))).cell (b := w.heap.size) (by omega) 1 (.int .i64 hv))).cell (b := w.heap.size) (by omega) 2 (.int .i64 hc))
      refine bodyPost_ret (ret_cell9 rfl _ _ w.heap.size _ _ _ _ rfl hF Try.underlying41 rfl (by kernel_rfl)) rfl ⟨⟨ht, hv, hc⟩, ?_, ?_, hO9.mono (by omega), hR9.bel, hG9⟩
      · rw [HW.out]; rfl
      · rw [HW.out]; exact HX.out

set_option maxRecDepth 100000 in
set_option maxHeartbeats 4000000 in
theorem readH_any (v : Value) (xs : List Int) (w : World) (hv : Has w v xs) (hB : IsB xs) (hl : xs.length ≤ 1073741824) :
    Calls Try.prog 28 #[v] w fun e w' => ∃ X : Hard10, e = .returned (.tuple #[.agg X.arr, .int .i64 (whole10 goodH10 noH10 (hard10 (xs, false))).2]) ∧ X.e = (whole10 goodH10 noH10 (hard10 (xs, false))).1 ∧ FitsH X ∧ Below w.heap.size w w' := by
  have hmf : ∀ (fn : Fn) (first cap : Array Value) (w : World), (Instr.makeFunc fn first cap).run Try.prog w = .ok (.func fn first cap) w := fun _ _ _ _ => rfl
  have hb1 : Below w.heap.size w (w.alloc (.cells #[.int .i64 0, .int .i64 0, .int .i64 0] 41)) := (Below.refl _ _).alloc (Nat.le_refl _) _
  have hbox : HardAt (w.alloc (.cells #[.int .i64 0, .int .i64 0, .int .i64 0] 41)) w.heap.size noH10 := heap_alloc_new w _
  have hz1 : (w.alloc (.cells #[.int .i64 0, .int .i64 0, .int .i64 0] 41)).heap.size = w.heap.size + 1 := by simp
  have hR := Rdr.make hb1 hv hB hl 102
  have hsl : ∃ p n c, v = .slice p n c := by
    obtain ⟨p, c, hp, -⟩ := hv
    exact ⟨p, _, c, hp⟩
  have k1 := readerOf_any v (w.alloc (.cells #[.int .i64 0, .int .i64 0, .int .i64 0] 41)) hsl
  have hb2 : Below (w.alloc (.cells #[.int .i64 0, .int .i64 0, .int .i64 0] 41)).heap.size (w.alloc (.cells #[.int .i64 0, .int .i64 0, .int .i64 0] 41)) ((w.alloc (.cells #[.int .i64 0, .int .i64 0, .int .i64 0] 41)).alloc (.cells #[v, .bool false] 102)) := (Below.refl _ _).alloc (Nat.le_refl _) _
  have hbox2 : HardAt _ w.heap.size noH10 := box_below hbox hb2
  have hwz : w.heap.size < ((w.alloc (.cells #[.int .i64 0, .int .i64 0, .int .i64 0] 41)).alloc (.cells #[v, .bool false] 102)).heap.size := by simp; omega
  have k2 := wholeH_any w _ _ (xs, false) hR
  generalize whole10 goodH10 noH10 (hard10 (xs, false)) = R at *
  obtain ⟨x0, err⟩ := R
  dsimp only at k2
  obtain ⟨p0, n0, c0_, rfl⟩ := hsl
  rw [hz1] at k2 k1
  clear hR hv hB hbox hb2
  go_enter Try.func28, Try.ntmps28
  go_wp2_with fail
  refine k1.mono ?_
  rintro _ w2 ⟨rfl, rfl⟩
  clear k1
  go_wp2_with fail
  generalize (w.alloc (.cells #[.int .i64 0, .int .i64 0, .int .i64 0] 41)).alloc (.cells #[.slice p0 n0 c0_, .bool false] 102) = W2 at *
  refine k2.mono ?_
  rintro _ w3 ⟨X, rfl, hX, hM, hb3, hg3⟩
  have hbox3 : HardAt w3 w.heap.size noH10 := grown_box hg3 hbox2 (by omega)
  have HX : Hid (X.e = x0) := hX
  clear k2 hbox2 hX
  obtain ⟨ht, hv, hc⟩ := X
  unfold Hard10.arr
  dsimp only
  have d0 := box_cell hbox3 0
  have d1 := box_cell hbox3 1
  have d2 := box_cell hbox3 2
  dsimp only [Hard10.arr, noH10] at d0 d1 d2
  have hlr := box_lt hbox3
  have fb := frozen9 hbox3
  go_wp2
  have hF := fillH (b := w.heap.size) (x0 := noH10) hbox3 ht hv hc 
  have hO9 := ((((((hM).cell (b := w.heap.size) (by omega) 0 (.int .i64 ht))).cell (b := w.heap.size) (by omega) 1 (.int .i64 hv))).cell (b := w.heap.size) (by omega) 2 (.int .i64 hc))
  have hB9 : Below w.heap.size w _ := (((hb3.setCell (p := ⟨w.heap.size, 0, none⟩) (Nat.le_refl _) (.int .i64 ht)).setCell (p := ⟨w.heap.size, 1, none⟩) (Nat.le_refl _) (.int .i64 hv)).setCell (p := ⟨w.heap.size, 2, none⟩) (Nat.le_refl _) (.int .i64 hc))
  exact bodyPost_ret (ret_cell9 rfl _ _ w.heap.size _ _ _ _ rfl hF Try.underlying41 rfl (by kernel_rfl)) rfl ⟨⟨ht, hv, hc⟩, rfl, HX.out, hO9.fits, hB9⟩
end Go.Proofs.Ytnbaoimjcaeeaaa
