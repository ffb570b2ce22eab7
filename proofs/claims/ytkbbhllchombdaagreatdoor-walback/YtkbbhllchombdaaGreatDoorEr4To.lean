import Derived.Test.YtkbbhllchombdaaGreatDoorEo3To
import Derived.Test.YtkbbhllchombdaaGreatDoorLxTo
import Derived.Test.YtkbbhllchombdaaGreatDoorCmC
import Derived.Test.YtkbbhllchombdaaGreatDoorLd
import Derived.Deep.RegionLaw
import Derived.Test.YtkbbhllchombdaaGreatDoorHRowETo
namespace Go.Proofs.YtkbbhllchombdaaGreatDoor
open Go.RowKit Go.Shelf
attribute [local go_sem ↓] ldE_exec ldE_run stE_exec stE_run ldC_exec ldC_run stC_exec stC_run ldW_exec stW_exec ldR_exec stR_exec ldT_exec stT_exec ldU_exec stU_exec oc_int oc_bool oc_string oc_slice oc_pointer
theorem min_of (x y : Int) : (if y < x then y else x) = min x y := by
  rw [Int.min_def]
  split <;> split <;> omega
theorem min3_run (ts : Array TypeId) (t : TypeId) (x y z : Int) (W : World) : (Builtin.min_ ts t #[.int .i64 x, .int .i64 y, .int .i64 z]).run Tryz.prog W = .ok (.int .i64 (min (min x y) z)) W := by
  simp [Builtin.min_, Builtin.min2, min_of]
set_option maxRecDepth 100000 in
set_option maxHeartbeats 2000000 in
theorem goodHard_any (x : Hard10) (w : World) : Calls Tryz.prog 219 #[.agg x.arr] w fun e w' => e = .returned (.bool (goodH10 x)) ∧ Below w.heap.size w w' := by
  have hb1 : Below w.heap.size w (w.alloc (.cells x.arr 30)) := (Below.refl _ _).alloc (Nat.le_refl _) _
  have HG : Hid (goodH10 x = decide (0 ≤ min (min x.t x.v) x.c)) := by
    rw [Hid, Bool.eq_iff_iff]
    unfold goodH10
    simp only [Bool.and_eq_true, decide_eq_true_eq]
    omega
  generalize goodH10 x = r at *
  obtain ⟨ht, hv, hc⟩ := x
  have hm3 := fun ts t W => min3_run ts t ht hv hc W
  unfold Hard10.arr at *
  dsimp only at *
  go_enter Tryz.func219, Tryz.ntmps219
  generalize min (min ht hv) hc = mm at *
  go_wp2
  go_ret
  rw [HG.out]
  exact ⟨rfl, hb1⟩

theorem readerOf_any (v : Value) (w : World) (h : ∃ p n c, v = .slice p n c) : Calls Tryz.prog 214 #[v] w fun e w' => e = .returned (.pointer (some ⟨w.heap.size, 0, none⟩)) ∧ w' = w.alloc (.cells #[v, .bool false] 296) := by
  obtain ⟨p, n, c, rfl⟩ := h
  go_enter Tryz.func214, Tryz.ntmps214
  go_wp2
  go_ret
  exact ⟨rfl, rfl⟩
theorem Rdr.make {w0 w : World} {v : Value} {xs : List Int} (hb : Below w0.heap.size w0 w) (hv : Has w0 v xs) (hB : IsB xs) (hl : xs.length ≤ 1073741824) (T : TypeId) : Rdr w0 (w.alloc (.cells #[v, .bool false] T)) w.heap.size (xs, false) := by
  have hbox := heap_alloc_new w (.cells #[v, .bool false] T)
  have hb2 : Below w.heap.size w (w.alloc (.cells #[v, .bool false] T)) := (Below.refl _ _).alloc (Nat.le_refl _) _
  refine ⟨⟨v, ⟨by simp, hb.size, box_cell hbox 0, box_cell hbox 1, frozen9 hbox 0, frozen9 hbox 1, (hv.inn.below hb (Nat.le_refl _)).below hb2 hb.size⟩⟩, hb.trans (hb2.mono hb.size), (fun h => by cases h), hB, hl⟩
theorem pent10_in (S : St) : inI (pent10 S).1.i ∧ inI (pent10 S).1.t ∧ inI (pent10 S).1.k := by
  rw [pent10_is]
  have h0 := int9_in S
  have h1 := int9_in (int9 S).2
  have h2 := int9_in (int9 (int9 S).2).2
  generalize (int9 S).1 = a at *
  generalize (int9 (int9 S).2).1 = b at *
  generalize (int9 (int9 (int9 S).2).2).1 = c at *
  generalize (int9 (int9 (int9 S).2).2).2 = T at *
  by_cases e2 : c = 2
  · rw [e2, ptail10_cmd]; rw [e2] at h2; exact ⟨h0, h1, h2⟩
  by_cases e3 : c = 3
  · rw [e3, ptail10_conf]; rw [e3] at h2; exact ⟨h0, h1, h2⟩
  rw [ptail10_else _ _ _ _ e2 e3]
  exact ⟨h0, h1, h2⟩
structure OwnsE (w : World) (B : Nat) (x : EntV) : Prop where
  i : inI x.i
  t : inI x.t
  k : inI x.k
  c : Fits9 x.c
  f : OwnsF w B x.f
theorem OwnsE.fits {w : World} {B : Nat} {x : EntV} (h : OwnsE w B x) : FitsE w x := ⟨h.i, h.t, h.k, h.c, h.f.fits⟩
theorem OwnsE.mono {w : World} {B B' : Nat} {x : EntV} (h : OwnsE w B x) (hB : B' ≤ B) : OwnsE w B' x := ⟨h.i, h.t, h.k, h.c, h.f.mono hB⟩
theorem OwnsE.kept {w w' : World} {B r : Nat} {x : EntV} (h : OwnsE w B x) (hg : w.grownBy w' (some r)) (hr : r < B) : OwnsE w' B x := ⟨h.i, h.t, h.k, h.c, h.f.kept hg hr⟩
theorem OwnsE.cell {w : World} {B b : Nat} {x : EntV} (h : OwnsE w B x) (hb : b < B) (i : Nat) (v : Value) : OwnsE (w.setCell ⟨b, i, none⟩ v) B x := h.kept (grown_set w b i v) hb
theorem OwnsE.below {w w' : World} {B : Nat} {x : EntV} (h : OwnsE w B x) (hb : Below w.heap.size w w') : OwnsE w' B x := ⟨h.i, h.t, h.k, h.c, h.f.below hb⟩
theorem OwnsE.nil (w : World) (B : Nat) : OwnsE w B noEV := ⟨⟨by decide, by decide⟩, ⟨by decide, by decide⟩, ⟨by decide, by decide⟩, fits_zeroC, OwnsF.nil w B⟩
theorem partE_any (w0 w : World) (rb : Nat) (S : St) (h : Rdr w0 w rb S) :
    Calls Tryz.prog 216 #[.pointer (some ⟨rb, 0, none⟩)] w fun e w' => ∃ X : EntV, e = .returned (.agg X.arr) ∧ X.e = (pent10 S).1 ∧ OwnsE w' w.heap.size X ∧ Left10 w0 w rb (pent10 S).2 w' := by
  refine (entryR_any w0 w rb S h).mono ?_
  rintro e w' ⟨X, rfl, hX, hO, hC, hL⟩
  have hi := pent10_in S
  rw [← hX] at hi
  exact ⟨X, rfl, hX, ⟨hi.1, hi.2.1, hi.2.2, hC, hO⟩, hL⟩

structure OwnsH (w : World) (B : Nat) (x : Hard10) : Prop where
  fits : FitsH x
  here : w.heap.size = w.heap.size ∧ B = B
theorem OwnsH.mono {w : World} {B B' : Nat} {x : Hard10} (h : OwnsH w B x) (_ : B' ≤ B) : OwnsH w B' x := ⟨h.fits, rfl, rfl⟩
theorem OwnsH.cell {w : World} {B b : Nat} {x : Hard10} (h : OwnsH w B x) (_ : b < B) (i : Nat) (v : Value) : OwnsH (w.setCell ⟨b, i, none⟩ v) B x := ⟨h.fits, rfl, rfl⟩
theorem OwnsH.below {w w' : World} {B : Nat} {x : Hard10} (h : OwnsH w B x) (_ : Below w.heap.size w w') : OwnsH w' B x := ⟨h.fits, rfl, rfl⟩
def noH10 : Hard10 := ⟨0, 0, 0⟩
def Hard10.e (x : Hard10) : Hard10 := x
theorem OwnsH.nil (w : World) (B : Nat) : OwnsH w B noH10 := ⟨⟨⟨by decide, by decide⟩, ⟨by decide, by decide⟩, ⟨by decide, by decide⟩⟩, rfl, rfl⟩
theorem partH_any (w0 w : World) (rb : Nat) (S : St) (h : Rdr w0 w rb S) :
    Calls Tryz.prog 218 #[.pointer (some ⟨rb, 0, none⟩)] w fun e w' => ∃ X : Hard10, e = .returned (.agg X.arr) ∧ X.e = (hard10 S).1 ∧ OwnsH w' w.heap.size X ∧ Left10 w0 w rb (hard10 S).2 w' := by
  refine (hardR_any w0 w rb S h).mono ?_
  rintro e w' ⟨rfl, hL⟩
  exact ⟨(hard10 S).1, rfl, rfl, ⟨by rw [hard10_is]; exact ⟨int9_in _, int9_in _, int9_in _⟩, rfl, rfl⟩, hL⟩

set_option maxRecDepth 100000 in
set_option maxHeartbeats 4000000 in
theorem wholeH_any (w0 w : World) (rb : Nat) (S : St) (h : Rdr w0 w rb S) :
    Calls Tryz.prog 217 #[.pointer (some ⟨rb, 0, none⟩), .func (.func 218) #[.pointer (some ⟨rb, 0, none⟩)] #[], .func (.func 219) #[] #[]] w fun e w' => ∃ X : Hard10, e = .returned (.tuple #[.agg X.arr, .int .i64 (whole10 goodH10 noH10 (hard10 S)).2]) ∧ X.e = (whole10 goodH10 noH10 (hard10 S)).1 ∧ OwnsH w' w.heap.size X ∧ Below w0.heap.size w0 w' ∧ w.grownBy w' (some rb) := by
  have hb1 : Below w.heap.size w (w.alloc (.cells #[.int .i64 0, .int .i64 0, .int .i64 0] 30)) := (Below.refl _ _).alloc (Nat.le_refl _) _
  have hbox : HardAt (w.alloc (.cells #[.int .i64 0, .int .i64 0, .int .i64 0] 30)) w.heap.size noH10 := heap_alloc_new w _
  have hz1 : (w.alloc (.cells #[.int .i64 0, .int .i64 0, .int .i64 0] 30)).heap.size = w.heap.size + 1 := by simp
  have hrl := h.lt
  have k1 := partH_any w0 _ rb S (h.more hb1)
  have HW0 : Hid (whole10 goodH10 noH10 (hard10 S) = if ((hard10 S).2.1.isEmpty && !(hard10 S).2.2) && goodH10 (hard10 S).1 then ((hard10 S).1, 0) else (noH10, 8)) := rfl
  generalize whole10 goodH10 noH10 (hard10 S) = R at *
  generalize hard10 S = A at *
  obtain ⟨x0, S1⟩ := A
  dsimp only at k1 HW0
  clear h
  go_enter Tryz.func217, Tryz.ntmps217
  go_wp2_with fail
  generalize w.alloc (.cells #[.int .i64 0, .int .i64 0, .int .i64 0] 30) = W1 at *
  refine k1.mono ?_
  rintro _ w2 ⟨X, rfl, hX, hM, hR2, hg2⟩
  have hbox2 : HardAt w2 w.heap.size noH10 := grown_box hg2 hbox (by omega)
  have hG2 := grown_after hb1 hg2
  have hsz2 := hg2.size
  have hb3 : Below w2.heap.size w2 (w2.alloc (.cells X.arr 30)) := (Below.refl _ _).alloc (Nat.le_refl _) _
  have hbn3 : HardAt (w2.alloc (.cells X.arr 30)) w2.heap.size X := heap_alloc_new w2 _
  have hbox3 := box_below hbox2 hb3
  have hR3 := hR2.more hb3
  have hG3 := grown_trans hG2 (below_grownBy hb3)
  have hM3 := hM.below hb3
  have kg : Calls Tryz.prog 219 #[.agg X.arr] (w2.alloc (.cells X.arr 30)) fun e w' => e = .returned (.bool (goodH10 X.e)) ∧ Below (w2.alloc (.cells X.arr 30)).heap.size (w2.alloc (.cells X.arr 30)) w' := (fun W _ => goodHard_any X W) _ hM3.fits
  have kf := hR3.fin
  have HX : Hid (X.e = x0) := hX
  rw [hX] at kg
  clear k1 hbox hR2 hg2 hbox2 hG2 hb3 hM hX
  generalize hgx : goodH10 x0 = gx at *
  have HGX : Hid (goodH10 x0 = gx) := hgx
  clear hgx
  obtain ⟨ht, hv, hc⟩ := X
  unfold Hard10.arr at *
  dsimp only at *
  go_wp2_with fail
  generalize w2.alloc (.cells #[.int .i64 ht, .int .i64 hv, .int .i64 hc] 30) = W3 at *
  generalize w2.heap.size = bx at *
  generalize hfi : (S1.1.isEmpty && !S1.2) = fi at *
  cases fi with
  | false =>
    have HW : Hid (R = (noH10, 8)) := by rw [Hid, HW0.out]; rfl
    clear HW0
    refine same_mono kf ?_
    have hbn : Below W3.heap.size W3 (W3.alloc (.cells #[.int .i64 0, .int .i64 0, .int .i64 0] 30)) := (Below.refl _ _).alloc (Nat.le_refl _) _
    have hbx : HardAt (W3.alloc (.cells #[.int .i64 0, .int .i64 0, .int .i64 0] 30)) w.heap.size noH10 := box_below hbox3 hbn
    have hnn : HardAt (W3.alloc (.cells #[.int .i64 0, .int .i64 0, .int .i64 0] 30)) W3.heap.size noH10 := heap_alloc_new W3 _
    have hRn := hR3.more hbn
    have hGn := grown_trans hG3 (below_grownBy hbn)
    have d0 := box_cell hbx 0
    have d1 := box_cell hbx 1
    have d2 := box_cell hbx 2
    have fb := frozen9 hbx
    have hlr := box_lt hbx
    have e0 := box_cell hnn 0
    have e1 := box_cell hnn 1
    have e2 := box_cell hnn 2
    have hln := box_lt hnn
    have hMn := OwnsH.nil (W3.alloc (.cells #[.int .i64 0, .int .i64 0, .int .i64 0] 30)) (w.heap.size + 1)
    dsimp only [Hard10.arr, noH10] at d0 d1 d2 e0 e1 e2
    go_upto_region 4 with fail
    generalize W3.alloc (.cells #[.int .i64 0, .int .i64 0, .int .i64 0] 30) = W9 at *
    generalize W3.heap.size = nb at *
    go_wp2
    have hF := fillH (b := w.heap.size) (x0 := noH10) hbx 0 0 0 
    have hR9 := ((((((hRn).cell (b := w.heap.size) (by omega) (by omega) 0 (.int .i64 0))).cell (b := w.heap.size) (by omega) (by omega) 1 (.int .i64 0))).cell (b := w.heap.size) (by omega) (by omega) 2 (.int .i64 0))
    have hG9 := (grown_new (b := w.heap.size) (grown_new (b := w.heap.size) (grown_new (b := w.heap.size) hGn (by omega) 0 (.int .i64 0)) (by omega) 1 (.int .i64 0)) (by omega) 2 (.int .i64 0))
    have hO9 := ((((((hMn).cell (b := w.heap.size) (by omega) 0 (.int .i64 0))).cell (b := w.heap.size) (by omega) 1 (.int .i64 0))).cell (b := w.heap.size) (by omega) 2 (.int .i64 0))
    refine bodyPost_ret (ret_cell9 rfl _ _ w.heap.size _ _ _ _ rfl hF Tryz.underlying30 rfl (by kernel_rfl)) rfl ⟨noH10, ?_, ?_, hO9.mono (by omega), hR9.bel, hG9⟩
    · rw [HW.out]; rfl
    · rw [HW.out]; rfl
  | true =>
    refine same_mono kf ?_
    clear kf
    replace hbn3 : HardAt W3 bx ⟨ht, hv, hc⟩ := hbn3
    have c0 := box_cell hbn3 0
    have c1 := box_cell hbn3 1
    have c2 := box_cell hbn3 2
    have hlx := box_lt hbn3
    dsimp only [Hard10.arr] at c0 c1 c2
    go_wp2_with fail
    refine kg.mono ?_
    rintro _ w4 ⟨rfl, hb4⟩
    have hbx4 : HardAt w4 bx ⟨ht, hv, hc⟩ := box_below hbn3 hb4
    have hbox4 : HardAt w4 w.heap.size noH10 := box_below hbox3 hb4
    have hR4 := hR3.more hb4
    have hG4 := grown_trans hG3 (below_grownBy hb4)
    have hM4 := hM3.below hb4
    clear kg hbn3 hbox3 hR3 hG3 hM3 hb4 c0 c1 c2 hlx
    cases gx with
    | false =>
      have HW : Hid (R = (noH10, 8)) := by rw [Hid, HW0.out]; rfl
      clear HW0
      have hbn : Below w4.heap.size w4 (w4.alloc (.cells #[.int .i64 0, .int .i64 0, .int .i64 0] 30)) := (Below.refl _ _).alloc (Nat.le_refl _) _
      have hbx : HardAt (w4.alloc (.cells #[.int .i64 0, .int .i64 0, .int .i64 0] 30)) w.heap.size noH10 := box_below hbox4 hbn
      have hnn : HardAt (w4.alloc (.cells #[.int .i64 0, .int .i64 0, .int .i64 0] 30)) w4.heap.size noH10 := heap_alloc_new w4 _
      have hRn := hR4.more hbn
      have hGn := grown_trans hG4 (below_grownBy hbn)
      have d0 := box_cell hbx 0
      have d1 := box_cell hbx 1
      have d2 := box_cell hbx 2
      have fb := frozen9 hbx
      have hlr := box_lt hbx
      have e0 := box_cell hnn 0
      have e1 := box_cell hnn 1
      have e2 := box_cell hnn 2
      have hln := box_lt hnn
      have hMn := OwnsH.nil (w4.alloc (.cells #[.int .i64 0, .int .i64 0, .int .i64 0] 30)) (w.heap.size + 1)
      dsimp only [Hard10.arr, noH10] at d0 d1 d2 e0 e1 e2
      go_upto_region 4 with fail
      generalize w4.alloc (.cells #[.int .i64 0, .int .i64 0, .int .i64 0] 30) = W9 at *
      generalize w4.heap.size = nb at *
      go_wp2
      have hF := fillH (b := w.heap.size) (x0 := noH10) hbx 0 0 0 
      have hR9 := ((((((hRn).cell (b := w.heap.size) (by omega) (by omega) 0 (.int .i64 0))).cell (b := w.heap.size) (by omega) (by omega) 1 (.int .i64 0))).cell (b := w.heap.size) (by omega) (by omega) 2 (.int .i64 0))
      have hG9 := (grown_new (b := w.heap.size) (grown_new (b := w.heap.size) (grown_new (b := w.heap.size) hGn (by omega) 0 (.int .i64 0)) (by omega) 1 (.int .i64 0)) (by omega) 2 (.int .i64 0))
      have hO9 := ((((((hMn).cell (b := w.heap.size) (by omega) 0 (.int .i64 0))).cell (b := w.heap.size) (by omega) 1 (.int .i64 0))).cell (b := w.heap.size) (by omega) 2 (.int .i64 0))
      refine bodyPost_ret (ret_cell9 rfl _ _ w.heap.size _ _ _ _ rfl hF Tryz.underlying30 rfl (by kernel_rfl)) rfl ⟨noH10, ?_, ?_, hO9.mono (by omega), hR9.bel, hG9⟩
      · rw [HW.out]; rfl
      · rw [HW.out]; rfl
    | true =>
      have HW : Hid (R = (x0, 0)) := by rw [Hid, HW0.out]; rfl
      clear HW0
      have c0 := box_cell hbx4 0
      have c1 := box_cell hbx4 1
      have c2 := box_cell hbx4 2
      have d0 := box_cell hbox4 0
      have d1 := box_cell hbox4 1
      have d2 := box_cell hbox4 2
      dsimp only [Hard10.arr, noH10] at c0 c1 c2 d0 d1 d2
      have hlx := box_lt hbx4
      have hlr := box_lt hbox4
      have fb := frozen9 hbox4
      go_wp2
      have hF := fillH (b := w.heap.size) (x0 := noH10) hbox4 ht hv hc 
      have hR9 := ((((((hR4).cell (b := w.heap.size) (by omega) (by omega) 0 (.int .i64 ht))).cell (b := w.heap.size) (by omega) (by omega) 1 (.int .i64 hv))).cell (b := w.heap.size) (by omega) (by omega) 2 (.int .i64 hc))
      have hG9 := (grown_new (b := w.heap.size) (grown_new (b := w.heap.size) (grown_new (b := w.heap.size) hG4 (by omega) 0 (.int .i64 ht)) (by omega) 1 (.int .i64 hv)) (by omega) 2 (.int .i64 hc))
      have hO9 := ((((((hM4).cell (b := w.heap.size) (by omega) 0 (.int .i64 ht))).cell (b := w.heap.size) (by omega) 1 (.int .i64 hv))).cell (b := w.heap.size) (by omega) 2 (.int .i64 hc))
      refine bodyPost_ret (ret_cell9 rfl _ _ w.heap.size _ _ _ _ rfl hF Tryz.underlying30 rfl (by kernel_rfl)) rfl ⟨⟨ht, hv, hc⟩, ?_, ?_, hO9.mono (by omega), hR9.bel, hG9⟩
      · rw [HW.out]; rfl
      · rw [HW.out]; exact HX.out

set_option maxRecDepth 100000 in
set_option maxHeartbeats 4000000 in
theorem readH_any (v : Value) (xs : List Int) (w : World) (hv : Has w v xs) (hB : IsB xs) (hl : xs.length ≤ 1073741824) :
    Calls Tryz.prog 168 #[v] w fun e w' => ∃ X : Hard10, e = .returned (.tuple #[.agg X.arr, .int .i64 (whole10 goodH10 noH10 (hard10 (xs, false))).2]) ∧ X.e = (whole10 goodH10 noH10 (hard10 (xs, false))).1 ∧ FitsH X ∧ Below w.heap.size w w' := by
  have hmf : ∀ (fn : Fn) (first cap : Array Value) (w : World), (Instr.makeFunc fn first cap).run Tryz.prog w = .ok (.func fn first cap) w := fun _ _ _ _ => rfl
  have hb1 : Below w.heap.size w (w.alloc (.cells #[.int .i64 0, .int .i64 0, .int .i64 0] 30)) := (Below.refl _ _).alloc (Nat.le_refl _) _
  have hbox : HardAt (w.alloc (.cells #[.int .i64 0, .int .i64 0, .int .i64 0] 30)) w.heap.size noH10 := heap_alloc_new w _
  have hz1 : (w.alloc (.cells #[.int .i64 0, .int .i64 0, .int .i64 0] 30)).heap.size = w.heap.size + 1 := by simp
  have hR := Rdr.make hb1 hv hB hl 296
  have hsl : ∃ p n c, v = .slice p n c := by
    obtain ⟨p, c, hp, -⟩ := hv
    exact ⟨p, _, c, hp⟩
  have k1 := readerOf_any v (w.alloc (.cells #[.int .i64 0, .int .i64 0, .int .i64 0] 30)) hsl
  have hb2 : Below (w.alloc (.cells #[.int .i64 0, .int .i64 0, .int .i64 0] 30)).heap.size (w.alloc (.cells #[.int .i64 0, .int .i64 0, .int .i64 0] 30)) ((w.alloc (.cells #[.int .i64 0, .int .i64 0, .int .i64 0] 30)).alloc (.cells #[v, .bool false] 296)) := (Below.refl _ _).alloc (Nat.le_refl _) _
  have hbox2 : HardAt _ w.heap.size noH10 := box_below hbox hb2
  have hwz : w.heap.size < ((w.alloc (.cells #[.int .i64 0, .int .i64 0, .int .i64 0] 30)).alloc (.cells #[v, .bool false] 296)).heap.size := by simp; omega
  have k2 := wholeH_any w _ _ (xs, false) hR
  generalize whole10 goodH10 noH10 (hard10 (xs, false)) = R at *
  obtain ⟨x0, err⟩ := R
  dsimp only at k2
  obtain ⟨p0, n0, c0_, rfl⟩ := hsl
  rw [hz1] at k2 k1
  clear hR hv hB hbox hb2
  go_enter Tryz.func168, Tryz.ntmps168
  go_wp2_with fail
  refine k1.mono ?_
  rintro _ w2 ⟨rfl, rfl⟩
  clear k1
  go_wp2_with fail
  generalize (w.alloc (.cells #[.int .i64 0, .int .i64 0, .int .i64 0] 30)).alloc (.cells #[.slice p0 n0 c0_, .bool false] 296) = W2 at *
  refine k2.mono ?_
  rintro _ w3 ⟨X, rfl, hX, hM, hb3, hg3⟩
  have hbox3 : HardAt w3 w.heap.size noH10 := grown_box hg3 hbox2 (by omega)
  have HX : Hid (X.e = x0) := hX
  clear k2 hbox2 hX
  obtain ⟨ht, hv, hc⟩ := X
  unfold Hard10.arr
  dsimp only
  have d0 := box_cell hbox3 0
  have d1 := box_cell hbox3 1
  have d2 := box_cell hbox3 2
  dsimp only [Hard10.arr, noH10] at d0 d1 d2
  have hlr := box_lt hbox3
  have fb := frozen9 hbox3
  go_wp2
  have hF := fillH (b := w.heap.size) (x0 := noH10) hbox3 ht hv hc 
  have hO9 := ((((((hM).cell (b := w.heap.size) (by omega) 0 (.int .i64 ht))).cell (b := w.heap.size) (by omega) 1 (.int .i64 hv))).cell (b := w.heap.size) (by omega) 2 (.int .i64 hc))
  have hB9 : Below w.heap.size w _ := (((hb3.setCell (p := ⟨w.heap.size, 0, none⟩) (Nat.le_refl _) (.int .i64 ht)).setCell (p := ⟨w.heap.size, 1, none⟩) (Nat.le_refl _) (.int .i64 hv)).setCell (p := ⟨w.heap.size, 2, none⟩) (Nat.le_refl _) (.int .i64 hc))
  exact bodyPost_ret (ret_cell9 rfl _ _ w.heap.size _ _ _ _ rfl hF Tryz.underlying30 rfl (by kernel_rfl)) rfl ⟨⟨ht, hv, hc⟩, rfl, HX.out, hO9.fits, hB9⟩
def entsV (l : List EntV) : List Value := (l.map fun x => x.arr.toList).flatten
theorem entsV_cons (x : EntV) (l : List EntV) : entsV (x :: l) = x.arr.toList ++ entsV l := by simp [entsV]
theorem entsV_append (l m : List EntV) : entsV (l ++ m) = entsV l ++ entsV m := by simp [entsV]
theorem entsV_one (x : EntV) : entsV [x] = x.arr.toList := by simp [entsV]
theorem arr_len (x : EntV) : x.arr.toList.length = 13 := rfl
theorem entsV_len : ∀ l : List EntV, (entsV l).length = l.length * 13
  | [] => rfl
  | x :: l => by rw [entsV_cons, List.length_append, entsV_len l, arr_len, List.length_cons]; omega
theorem entsV_at : ∀ {l : List EntV} {i k : Nat}, i < l.length → k < 13 → (entsV l)[i * 13 + k]? = (l.getD i noEV).arr[k]?
  | [], _, _, h, _ => by cases h
  | x :: l, 0, k, _, hk => by
    rw [entsV_cons, List.getElem?_append_left (by rw [arr_len]; omega), List.getD_cons_zero, Nat.zero_mul, Nat.zero_add, Array.getElem?_toList]
  | x :: l, i + 1, k, h, hk => by
    rw [entsV_cons, List.getElem?_append_right (by rw [arr_len]; omega), List.getD_cons_succ, arr_len, show (i + 1) * 13 + k - 13 = i * 13 + k by omega]
    exact entsV_at (by simpa using h) hk
theorem entsV_cell (l : List EntV) : ∀ u ∈ entsV l, u.oneCell' = true := by
  intro u hu
  unfold entsV at hu
  rw [List.mem_flatten] at hu
  obtain ⟨a, ha, hu⟩ := hu
  obtain ⟨x, _, rfl⟩ := List.mem_map.1 ha
  simp only [EntV.arr, List.mem_cons, List.not_mem_nil, or_false] at hu
  rcases hu with rfl | rfl | rfl | rfl | rfl | rfl | rfl | rfl | rfl | rfl | rfl | rfl | rfl <;> rfl

theorem rows_apart {w : World} {B B' : Nat} {e e' : TypeId} {s s' n n' : Nat} {v v' : Value} {xs xs' : List Value} (h : w.ownsRow B e s v n xs) (h' : w.ownsRow B' e' s' v' n' xs') (hne : e ≠ e') : v.ownBlock = none ∨ v.ownBlock ≠ v'.ownBlock := by
  rcases h.2 with ⟨rfl, _⟩ | ⟨g, cap, cur, rfl, _, hg, _⟩
  · exact .inl rfl
  · right
    rcases h'.2 with ⟨rfl, _⟩ | ⟨g', cap', cur', rfl, _, hg', _⟩
    · intro e; cases e
    · intro e
      have e' : g = g' := Option.some.inj e
      subst e'
      rw [hg] at hg'
      have := Option.some.inj hg'
      simp only [Obj.cells.injEq] at this
      exact hne this.2.1
theorem OwnsE.app {w w' : World} {B B' : Nat} {x : EntV} {u : Value} {s n : Nat} {xs : List Value} (h : OwnsE w B x) (hu : w.ownsRow B' 28 s u n xs) (hg : w.grownBy w' u.ownBlock) : OwnsE w' B x := by
  refine ⟨h.i, h.t, h.k, h.c, ⟨?_, ?_, h.f.iu, h.f.iv, h.f.lu, h.f.lv⟩⟩
  · exact World.ownsRow.kept h.f.u hg (rows_apart h.f.u hu (by decide))
  · exact World.ownsRow.kept h.f.v hg (rows_apart h.f.v hu (by decide))
structure OwnsEs (w : World) (B : Nat) (s : Sl10) (es : List EntV) : Prop where
  row : w.ownsRow B 28 13 (.slice s.p s.n s.c) es.length (entsV es)
  all : ∀ e ∈ es, OwnsE w B e
theorem OwnsEs.fits {w : World} {B : Nat} {s : Sl10} {es : List EntV} (h : OwnsEs w B s es) : HasE w s es := by
  obtain ⟨p, n, c⟩ := s
  rcases h.row.2 with ⟨hv, hn⟩ | ⟨g, cap, cur, hv, hB, hg, hnc, _, _, _⟩
  · simp only [Value.slice.injEq] at hv
    obtain ⟨rfl, rfl, rfl⟩ := hv
    exact ⟨hn, Nat.le_refl _, fun _ => rfl, fun h0 => absurd h0 (Nat.lt_irrefl 0), fun e he => (h.all e he).fits⟩
  · simp only [Value.slice.injEq] at hv
    obtain ⟨rfl, rfl, rfl⟩ := hv
    refine ⟨rfl, hnc, (fun h0 => by cases h0), fun _ => ⟨g, 0, rfl, (Array.getElem?_eq_some_iff.1 hg).1, fun i hi j hj => ?_⟩, fun e he => (h.all e he).fits⟩
    have hi' : i < es.length := hi
    have hk := entsV_at hi' hj
    have hjj : j < ((es.getD i noEV).arr).size := hj
    rw [Array.getElem?_eq_getElem hjj] at hk ⊢
    have hc := World.ownsRow.cells h.row (g := g) rfl (i * 13 + j) _ hk
    rw [Addr.add_lit] at hc
    rw [Nat.zero_add] at hc ⊢
    exact hc
theorem OwnsEs.kept {w w' : World} {B r : Nat} {s : Sl10} {es : List EntV} (h : OwnsEs w B s es) (hg : w.grownBy w' (some r)) (hr : r < B) : OwnsEs w' B s es := by
  refine ⟨World.ownsRow.kept h.row hg ?_, fun e he => (h.all e he).kept hg hr⟩
  cases hv : Value.ownBlock (.slice s.p s.n s.c) with
  | none => exact .inl rfl
  | some k =>
    have := (World.ownsRow.lt h.row k hv).1
    exact .inr (fun e => by cases e; omega)
theorem OwnsEs.cell {w : World} {B b : Nat} {s : Sl10} {es : List EntV} (h : OwnsEs w B s es) (hb : b < B) (i : Nat) (v : Value) : OwnsEs (w.setCell ⟨b, i, none⟩ v) B s es := h.kept (grown_set w b i v) hb
theorem row_below {w w' : World} {B B' : Nat} {e : TypeId} {s n : Nat} {v : Value} {xs : List Value} (h : w.ownsRow B e s v n xs) (hb : Below B' w w') (hB : w.heap.size ≤ B') : w'.ownsRow B e s v n xs := by
  refine ⟨h.1, ?_⟩
  rcases h.2 with hn | ⟨g, cap, cur, rfl, hb1, hg, rest⟩
  · exact .inl hn
  · refine .inr ⟨g, cap, cur, rfl, hb1, ?_, rest⟩
    rw [hb.block g (Nat.lt_of_lt_of_le (Array.getElem?_eq_some_iff.1 hg).1 hB)]
    exact hg
theorem OwnsEs.below {w w' : World} {B : Nat} {s : Sl10} {es : List EntV} (h : OwnsEs w B s es) (hb : Below w.heap.size w w') : OwnsEs w' B s es := ⟨row_below h.row hb (Nat.le_refl _), fun e he => (h.all e he).below hb⟩
theorem OwnsEs.mono {w : World} {B B' : Nat} {s : Sl10} {es : List EntV} (h : OwnsEs w B s es) (hB : B' ≤ B) : OwnsEs w B' s es := ⟨row_mono h.row hB, fun e he => (h.all e he).mono hB⟩
theorem OwnsEs.nil (w : World) (B : Nat) : OwnsEs w B nilS10 [] := ⟨World.ownsRow_nil w B _ 13, fun _ h => by cases h⟩
theorem new_row (X : World) (a : Array Value) (t : TypeId) : ∀ j x, a.toList[j]? = some x → (X.alloc (.cells a t)).cell? ((⟨X.heap.size, 0, none⟩ : Addr).add j) = some x := by
  intro j x hj
  rw [Addr.add_lit, Nat.zero_add, box_cell (heap_alloc_new X (.cells a t)) j, ← Array.getElem?_toList]
  exact hj
set_option maxRecDepth 100000 in
set_option maxHeartbeats 4000000 in
theorem wholeE_any (w0 w : World) (rb : Nat) (S : St) (h : Rdr w0 w rb S) :
    Calls Tryz.prog 215 #[.pointer (some ⟨rb, 0, none⟩), .func (.func 216) #[.pointer (some ⟨rb, 0, none⟩)] #[], .func (.func 106) #[] #[]] w fun e w' => ∃ X : EntV, e = .returned (.tuple #[.agg X.arr, .int .i64 (whole10 goodE10 noE10 (pent10 S)).2]) ∧ X.e = (whole10 goodE10 noE10 (pent10 S)).1 ∧ OwnsE w' w.heap.size X ∧ Below w0.heap.size w0 w' ∧ w.grownBy w' (some rb) := by
  have hb1 : Below w.heap.size w (w.alloc (.cells #[.int .i64 0, .int .i64 0, .int .i64 0, .int .i64 0, .int .i64 0, .int .i64 0, .string em9, .string em9, .string em9, .string em9, .int .i64 0, .slice none 0 0, .slice none 0 0] 28)) := (Below.refl _ _).alloc (Nat.le_refl _) _
  have hbox : EntAt (w.alloc (.cells #[.int .i64 0, .int .i64 0, .int .i64 0, .int .i64 0, .int .i64 0, .int .i64 0, .string em9, .string em9, .string em9, .string em9, .int .i64 0, .slice none 0 0, .slice none 0 0] 28)) w.heap.size noEV := heap_alloc_new w _
  have hz1 : (w.alloc (.cells #[.int .i64 0, .int .i64 0, .int .i64 0, .int .i64 0, .int .i64 0, .int .i64 0, .string em9, .string em9, .string em9, .string em9, .int .i64 0, .slice none 0 0, .slice none 0 0] 28)).heap.size = w.heap.size + 1 := by simp
  have hrl := h.lt
  have k1 := partE_any w0 _ rb S (h.more hb1)
  have HW0 : Hid (whole10 goodE10 noE10 (pent10 S) = if ((pent10 S).2.1.isEmpty && !(pent10 S).2.2) && goodE10 (pent10 S).1 then ((pent10 S).1, 0) else (noE10, 8)) := rfl
  generalize whole10 goodE10 noE10 (pent10 S) = R at *
  generalize pent10 S = A at *
  obtain ⟨x0, S1⟩ := A
  dsimp only at k1 HW0
  clear h
  go_enter Tryz.func215, Tryz.ntmps215
  go_wp2_with fail
  generalize w.alloc (.cells #[.int .i64 0, .int .i64 0, .int .i64 0, .int .i64 0, .int .i64 0, .int .i64 0, .string em9, .string em9, .string em9, .string em9, .int .i64 0, .slice none 0 0, .slice none 0 0] 28) = W1 at *
  refine k1.mono ?_
  rintro _ w2 ⟨X, rfl, hX, hM, hR2, hg2⟩
  have hbox2 : EntAt w2 w.heap.size noEV := grown_box hg2 hbox (by omega)
  have hG2 := grown_after hb1 hg2
  have hsz2 := hg2.size
  have hb3 : Below w2.heap.size w2 (w2.alloc (.cells X.arr 28)) := (Below.refl _ _).alloc (Nat.le_refl _) _
  have hbn3 : EntAt (w2.alloc (.cells X.arr 28)) w2.heap.size X := heap_alloc_new w2 _
  have hbox3 := box_below hbox2 hb3
  have hR3 := hR2.more hb3
  have hG3 := grown_trans hG2 (below_grownBy hb3)
  have hM3 := hM.below hb3
  have kg : Calls Tryz.prog 106 #[.agg X.arr] (w2.alloc (.cells X.arr 28)) fun e w' => e = .returned (.bool (goodE10 X.e)) ∧ Below (w2.alloc (.cells X.arr 28)).heap.size (w2.alloc (.cells X.arr 28)) w' := (fun W h => goodE_any X W h) _ hM3.fits
  have kf := hR3.fin
  have HX : Hid (X.e = x0) := hX
  rw [hX] at kg
  clear k1 hbox hR2 hg2 hbox2 hG2 hb3 hM hX
  generalize hgx : goodE10 x0 = gx at *
  have HGX : Hid (goodE10 x0 = gx) := hgx
  clear hgx
  obtain ⟨i, t, k, ⟨ck, cs, cq, ckey, cold, cval, cunt, clim⟩, ⟨⟨p, n, c⟩, ⟨q, m, d⟩, f⟩⟩ := X
  unfold EntV.arr at *
  dsimp only at *
  go_wp2_with fail
  generalize w2.alloc (.cells #[.int .i64 i, .int .i64 t, .int .i64 k, .int .i64 ck, .int .i64 cs, .int .i64 cq, .string ckey, .string cold, .string cval, .string cunt, .int .i64 clim, .slice p n c, .slice q m d] 28) = W3 at *
  generalize w2.heap.size = bx at *
  generalize hfi : (S1.1.isEmpty && !S1.2) = fi at *
  cases fi with
  | false =>
    have HW : Hid (R = (noE10, 8)) := by rw [Hid, HW0.out]; rfl
    clear HW0
    refine same_mono kf ?_
    have hbn : Below W3.heap.size W3 (W3.alloc (.cells #[.int .i64 0, .int .i64 0, .int .i64 0, .int .i64 0, .int .i64 0, .int .i64 0, .string em9, .string em9, .string em9, .string em9, .int .i64 0, .slice none 0 0, .slice none 0 0] 28)) := (Below.refl _ _).alloc (Nat.le_refl _) _
    have hbx : EntAt (W3.alloc (.cells #[.int .i64 0, .int .i64 0, .int .i64 0, .int .i64 0, .int .i64 0, .int .i64 0, .string em9, .string em9, .string em9, .string em9, .int .i64 0, .slice none 0 0, .slice none 0 0] 28)) w.heap.size noEV := box_below hbox3 hbn
    have hnn : EntAt (W3.alloc (.cells #[.int .i64 0, .int .i64 0, .int .i64 0, .int .i64 0, .int .i64 0, .int .i64 0, .string em9, .string em9, .string em9, .string em9, .int .i64 0, .slice none 0 0, .slice none 0 0] 28)) W3.heap.size noEV := heap_alloc_new W3 _
    have hRn := hR3.more hbn
    have hGn := grown_trans hG3 (below_grownBy hbn)
    have d0 := box_cell hbx 0
    have d1 := box_cell hbx 1
    have d2 := box_cell hbx 2
    have d3 := box_cell hbx 3
    have d4 := box_cell hbx 4
    have d5 := box_cell hbx 5
    have d6 := box_cell hbx 6
    have d7 := box_cell hbx 7
    have d8 := box_cell hbx 8
    have d9 := box_cell hbx 9
    have d10 := box_cell hbx 10
    have d11 := box_cell hbx 11
    have d12 := box_cell hbx 12
    have fb := frozen9 hbx
    have hlr := box_lt hbx
    have e0 := box_cell hnn 0
    have e1 := box_cell hnn 1
    have e2 := box_cell hnn 2
    have e3 := box_cell hnn 3
    have e4 := box_cell hnn 4
    have e5 := box_cell hnn 5
    have e6 := box_cell hnn 6
    have e7 := box_cell hnn 7
    have e8 := box_cell hnn 8
    have e9 := box_cell hnn 9
    have e10 := box_cell hnn 10
    have e11 := box_cell hnn 11
    have e12 := box_cell hnn 12
    have hln := box_lt hnn
    have hMn := OwnsE.nil (W3.alloc (.cells #[.int .i64 0, .int .i64 0, .int .i64 0, .int .i64 0, .int .i64 0, .int .i64 0, .string em9, .string em9, .string em9, .string em9, .int .i64 0, .slice none 0 0, .slice none 0 0] 28)) (w.heap.size + 1)
    dsimp only [EntV.arr, noEV, zeroC9, noFV, nilS10] at d0 d1 d2 d3 d4 d5 d6 d7 d8 d9 d10 d11 d12 e0 e1 e2 e3 e4 e5 e6 e7 e8 e9 e10 e11 e12
    go_upto_region 4 with fail
    generalize W3.alloc (.cells #[.int .i64 0, .int .i64 0, .int .i64 0, .int .i64 0, .int .i64 0, .int .i64 0, .string em9, .string em9, .string em9, .string em9, .int .i64 0, .slice none 0 0, .slice none 0 0] 28) = W9 at *
    generalize W3.heap.size = nb at *
    go_wp2
    have hF := fillE (b := w.heap.size) (x0 := noEV) hbx 0 0 0 0 0 0 em9 em9 em9 em9 0 none 0 0 none 0 0 noF10
    have hR9 := ((((((((((((((((((((((((((hRn).cell (b := w.heap.size) (by omega) (by omega) 0 (.int .i64 0))).cell (b := w.heap.size) (by omega) (by omega) 1 (.int .i64 0))).cell (b := w.heap.size) (by omega) (by omega) 2 (.int .i64 0))).cell (b := w.heap.size) (by omega) (by omega) 3 (.int .i64 0))).cell (b := w.heap.size) (by omega) (by omega) 4 (.int .i64 0))).cell (b := w.heap.size) (by omega) (by omega) 5 (.int .i64 0))).cell (b := w.heap.size) (by omega) (by omega) 6 (.string em9))).cell (b := w.heap.size) (by omega) (by omega) 7 (.string em9))).cell (b := w.heap.size) (by omega) (by omega) 8 (.string em9))).cell (b := w.heap.size) (by omega) (by omega) 9 (.string em9))).cell (b := w.heap.size) (by omega) (by omega) 10 (.int .i64 0))).cell (b := w.heap.size) (by omega) (by omega) 11 (.slice none 0 0))).cell (b := w.heap.size) (by omega) (by omega) 12 (.slice none 0 0))
    have hG9 := (grown_new (b := w.heap.size) (grown_new (b := w.heap.size) (grown_new (b := w.heap.size) (grown_new (b := w.heap.size) (grown_new (b := w.heap.size) (grown_new (b := w.heap.size) (grown_new (b := w.heap.size) (grown_new (b := w.heap.size) (grown_new (b := w.heap.size) (grown_new (b := w.heap.size) (grown_new (b := w.heap.size) (grown_new (b := w.heap.size) (grown_new (b := w.heap.size) hGn (by omega) 0 (.int .i64 0)) (by omega) 1 (.int .i64 0)) (by omega) 2 (.int .i64 0)) (by omega) 3 (.int .i64 0)) (by omega) 4 (.int .i64 0)) (by omega) 5 (.int .i64 0)) (by omega) 6 (.string em9)) (by omega) 7 (.string em9)) (by omega) 8 (.string em9)) (by omega) 9 (.string em9)) (by omega) 10 (.int .i64 0)) (by omega) 11 (.slice none 0 0)) (by omega) 12 (.slice none 0 0))
    have hO9 := ((((((((((((((((((((((((((hMn).cell (b := w.heap.size) (by omega) 0 (.int .i64 0))).cell (b := w.heap.size) (by omega) 1 (.int .i64 0))).cell (b := w.heap.size) (by omega) 2 (.int .i64 0))).cell (b := w.heap.size) (by omega) 3 (.int .i64 0))).cell (b := w.heap.size) (by omega) 4 (.int .i64 0))).cell (b := w.heap.size) (by omega) 5 (.int .i64 0))).cell (b := w.heap.size) (by omega) 6 (.string em9))).cell (b := w.heap.size) (by omega) 7 (.string em9))).cell (b := w.heap.size) (by omega) 8 (.string em9))).cell (b := w.heap.size) (by omega) 9 (.string em9))).cell (b := w.heap.size) (by omega) 10 (.int .i64 0))).cell (b := w.heap.size) (by omega) 11 (.slice none 0 0))).cell (b := w.heap.size) (by omega) 12 (.slice none 0 0))
    refine bodyPost_ret (ret_cell9 rfl _ _ w.heap.size _ _ _ _ rfl hF Tryz.underlying28 rfl (by kernel_rfl)) rfl ⟨noEV, ?_, ?_, hO9.mono (by omega), hR9.bel, hG9⟩
    · rw [HW.out]; rfl
    · rw [HW.out]; rfl
  | true =>
    refine same_mono kf ?_
    clear kf
    replace hbn3 : EntAt W3 bx ⟨i, t, k, ⟨ck, cs, cq, ckey, cold, cval, cunt, clim⟩, ⟨⟨p, n, c⟩, ⟨q, m, d⟩, f⟩⟩ := hbn3
    have c0 := box_cell hbn3 0
    have c1 := box_cell hbn3 1
    have c2 := box_cell hbn3 2
    have c3 := box_cell hbn3 3
    have c4 := box_cell hbn3 4
    have c5 := box_cell hbn3 5
    have c6 := box_cell hbn3 6
    have c7 := box_cell hbn3 7
    have c8 := box_cell hbn3 8
    have c9 := box_cell hbn3 9
    have c10 := box_cell hbn3 10
    have c11 := box_cell hbn3 11
    have c12 := box_cell hbn3 12
    have hlx := box_lt hbn3
    dsimp only [EntV.arr] at c0 c1 c2 c3 c4 c5 c6 c7 c8 c9 c10 c11 c12
    go_wp2_with fail
    refine kg.mono ?_
    rintro _ w4 ⟨rfl, hb4⟩
    have hbx4 : EntAt w4 bx ⟨i, t, k, ⟨ck, cs, cq, ckey, cold, cval, cunt, clim⟩, ⟨⟨p, n, c⟩, ⟨q, m, d⟩, f⟩⟩ := box_below hbn3 hb4
    have hbox4 : EntAt w4 w.heap.size noEV := box_below hbox3 hb4
    have hR4 := hR3.more hb4
    have hG4 := grown_trans hG3 (below_grownBy hb4)
    have hM4 := hM3.below hb4
    clear kg hbn3 hbox3 hR3 hG3 hM3 hb4 c0 c1 c2 c3 c4 c5 c6 c7 c8 c9 c10 c11 c12 hlx
    cases gx with
    | false =>
      have HW : Hid (R = (noE10, 8)) := by rw [Hid, HW0.out]; rfl
      clear HW0
      have hbn : Below w4.heap.size w4 (w4.alloc (.cells #[.int .i64 0, .int .i64 0, .int .i64 0, .int .i64 0, .int .i64 0, .int .i64 0, .string em9, .string em9, .string em9, .string em9, .int .i64 0, .slice none 0 0, .slice none 0 0] 28)) := (Below.refl _ _).alloc (Nat.le_refl _) _
      have hbx : EntAt (w4.alloc (.cells #[.int .i64 0, .int .i64 0, .int .i64 0, .int .i64 0, .int .i64 0, .int .i64 0, .string em9, .string em9, .string em9, .string em9, .int .i64 0, .slice none 0 0, .slice none 0 0] 28)) w.heap.size noEV := box_below hbox4 hbn
      have hnn : EntAt (w4.alloc (.cells #[.int .i64 0, .int .i64 0, .int .i64 0, .int .i64 0, .int .i64 0, .int .i64 0, .string em9, .string em9, .string em9, .string em9, .int .i64 0, .slice none 0 0, .slice none 0 0] 28)) w4.heap.size noEV := heap_alloc_new w4 _
      have hRn := hR4.more hbn
      have hGn := grown_trans hG4 (below_grownBy hbn)
      have d0 := box_cell hbx 0
      have d1 := box_cell hbx 1
      have d2 := box_cell hbx 2
      have d3 := box_cell hbx 3
      have d4 := box_cell hbx 4
      have d5 := box_cell hbx 5
      have d6 := box_cell hbx 6
      have d7 := box_cell hbx 7
      have d8 := box_cell hbx 8
      have d9 := box_cell hbx 9
      have d10 := box_cell hbx 10
      have d11 := box_cell hbx 11
      have d12 := box_cell hbx 12
      have fb := frozen9 hbx
      have hlr := box_lt hbx
      have e0 := box_cell hnn 0
      have e1 := box_cell hnn 1
      have e2 := box_cell hnn 2
      have e3 := box_cell hnn 3
      have e4 := box_cell hnn 4
      have e5 := box_cell hnn 5
      have e6 := box_cell hnn 6
      have e7 := box_cell hnn 7
      have e8 := box_cell hnn 8
      have e9 := box_cell hnn 9
      have e10 := box_cell hnn 10
      have e11 := box_cell hnn 11
      have e12 := box_cell hnn 12
      have hln := box_lt hnn
      have hMn := OwnsE.nil (w4.alloc (.cells #[.int .i64 0, .int .i64 0, .int .i64 0, .int .i64 0, .int .i64 0, .int .i64 0, .string em9, .string em9, .string em9, .string em9, .int .i64 0, .slice none 0 0, .slice none 0 0] 28)) (w.heap.size + 1)
      dsimp only [EntV.arr, noEV, zeroC9, noFV, nilS10] at d0 d1 d2 d3 d4 d5 d6 d7 d8 d9 d10 d11 d12 e0 e1 e2 e3 e4 e5 e6 e7 e8 e9 e10 e11 e12
      go_upto_region 4 with fail
      generalize w4.alloc (.cells #[.int .i64 0, .int .i64 0, .int .i64 0, .int .i64 0, .int .i64 0, .int .i64 0, .string em9, .string em9, .string em9, .string em9, .int .i64 0, .slice none 0 0, .slice none 0 0] 28) = W9 at *
      generalize w4.heap.size = nb at *
      go_wp2
      have hF := fillE (b := w.heap.size) (x0 := noEV) hbx 0 0 0 0 0 0 em9 em9 em9 em9 0 none 0 0 none 0 0 noF10
      have hR9 := ((((((((((((((((((((((((((hRn).cell (b := w.heap.size) (by omega) (by omega) 0 (.int .i64 0))).cell (b := w.heap.size) (by omega) (by omega) 1 (.int .i64 0))).cell (b := w.heap.size) (by omega) (by omega) 2 (.int .i64 0))).cell (b := w.heap.size) (by omega) (by omega) 3 (.int .i64 0))).cell (b := w.heap.size) (by omega) (by omega) 4 (.int .i64 0))).cell (b := w.heap.size) (by omega) (by omega) 5 (.int .i64 0))).cell (b := w.heap.size) (by omega) (by omega) 6 (.string em9))).cell (b := w.heap.size) (by omega) (by omega) 7 (.string em9))).cell (b := w.heap.size) (by omega) (by omega) 8 (.string em9))).cell (b := w.heap.size) (by omega) (by omega) 9 (.string em9))).cell (b := w.heap.size) (by omega) (by omega) 10 (.int .i64 0))).cell (b := w.heap.size) (by omega) (by omega) 11 (.slice none 0 0))).cell (b := w.heap.size) (by omega) (by omega) 12 (.slice none 0 0))
      have hG9 := (grown_new (b := w.heap.size) (grown_new (b := w.heap.size) (grown_new (b := w.heap.size) (grown_new (b := w.heap.size) (grown_new (b := w.heap.size) (grown_new (b := w.heap.size) (grown_new (b := w.heap.size) (grown_new (b := w.heap.size) (grown_new (b := w.heap.size) (grown_new (b := w.heap.size) (grown_new (b := w.heap.size) (grown_new (b := w.heap.size) (grown_new (b := w.heap.size) hGn (by omega) 0 (.int .i64 0)) (by omega) 1 (.int .i64 0)) (by omega) 2 (.int .i64 0)) (by omega) 3 (.int .i64 0)) (by omega) 4 (.int .i64 0)) (by omega) 5 (.int .i64 0)) (by omega) 6 (.string em9)) (by omega) 7 (.string em9)) (by omega) 8 (.string em9)) (by omega) 9 (.string em9)) (by omega) 10 (.int .i64 0)) (by omega) 11 (.slice none 0 0)) (by omega) 12 (.slice none 0 0))
      have hO9 := ((((((((((((((((((((((((((hMn).cell (b := w.heap.size) (by omega) 0 (.int .i64 0))).cell (b := w.heap.size) (by omega) 1 (.int .i64 0))).cell (b := w.heap.size) (by omega) 2 (.int .i64 0))).cell (b := w.heap.size) (by omega) 3 (.int .i64 0))).cell (b := w.heap.size) (by omega) 4 (.int .i64 0))).cell (b := w.heap.size) (by omega) 5 (.int .i64 0))).cell (b := w.heap.size) (by omega) 6 (.string em9))).cell (b := w.heap.size) (by omega) 7 (.string em9))).cell (b := w.heap.size) (by omega) 8 (.string em9))).cell (b := w.heap.size) (by omega) 9 (.string em9))).cell (b := w.heap.size) (by omega) 10 (.int .i64 0))).cell (b := w.heap.size) (by omega) 11 (.slice none 0 0))).cell (b := w.heap.size) (by omega) 12 (.slice none 0 0))
      refine bodyPost_ret (ret_cell9 rfl _ _ w.heap.size _ _ _ _ rfl hF Tryz.underlying28 rfl (by kernel_rfl)) rfl ⟨noEV, ?_, ?_, hO9.mono (by omega), hR9.bel, hG9⟩
      · rw [HW.out]; rfl
      · rw [HW.out]; rfl
    | true =>
      have HW : Hid (R = (x0, 0)) := by rw [Hid, HW0.out]; rfl
      clear HW0
      have c0 := box_cell hbx4 0
      have c1 := box_cell hbx4 1
      have c2 := box_cell hbx4 2
      have c3 := box_cell hbx4 3
      have c4 := box_cell hbx4 4
      have c5 := box_cell hbx4 5
      have c6 := box_cell hbx4 6
      have c7 := box_cell hbx4 7
      have c8 := box_cell hbx4 8
      have c9 := box_cell hbx4 9
      have c10 := box_cell hbx4 10
      have c11 := box_cell hbx4 11
      have c12 := box_cell hbx4 12
      have d0 := box_cell hbox4 0
      have d1 := box_cell hbox4 1
      have d2 := box_cell hbox4 2
      have d3 := box_cell hbox4 3
      have d4 := box_cell hbox4 4
      have d5 := box_cell hbox4 5
      have d6 := box_cell hbox4 6
      have d7 := box_cell hbox4 7
      have d8 := box_cell hbox4 8
      have d9 := box_cell hbox4 9
      have d10 := box_cell hbox4 10
      have d11 := box_cell hbox4 11
      have d12 := box_cell hbox4 12
      dsimp only [EntV.arr, noEV, zeroC9, noFV, nilS10] at c0 c1 c2 c3 c4 c5 c6 c7 c8 c9 c10 c11 c12 d0 d1 d2 d3 d4 d5 d6 d7 d8 d9 d10 d11 d12
      have hlx := box_lt hbx4
      have hlr := box_lt hbox4
      have fb := frozen9 hbox4
      go_wp2
      have hF := fillE (b := w.heap.size) (x0 := noEV) hbox4 i t k ck cs cq ckey cold cval cunt clim p n c q m d f
      have hR9 := ((((((((((((((((((((((((((hR4).cell (b := w.heap.size) (by omega) (by omega) 0 (.int .i64 i))).cell (b := w.heap.size) (by omega) (by omega) 1 (.int .i64 t))).cell (b := w.heap.size) (by omega) (by omega) 2 (.int .i64 k))).cell (b := w.heap.size) (by omega) (by omega) 3 (.int .i64 ck))).cell (b := w.heap.size) (by omega) (by omega) 4 (.int .i64 cs))).cell (b := w.heap.size) (by omega) (by omega) 5 (.int .i64 cq))).cell (b := w.heap.size) (by omega) (by omega) 6 (.string ckey))).cell (b := w.heap.size) (by omega) (by omega) 7 (.string cold))).cell (b := w.heap.size) (by omega) (by omega) 8 (.string cval))).cell (b := w.heap.size) (by omega) (by omega) 9 (.string cunt))).cell (b := w.heap.size) (by omega) (by omega) 10 (.int .i64 clim))).cell (b := w.heap.size) (by omega) (by omega) 11 (.slice p n c))).cell (b := w.heap.size) (by omega) (by omega) 12 (.slice q m d))
      have hG9 := (grown_new (b := w.heap.size) (grown_new (b := w.heap.size) (grown_new (b := w.heap.size) (grown_new (b := w.heap.size) (grown_new (b := w.heap.size) (grown_new (b := w.heap.size) (grown_new (b := w.heap.size) (grown_new (b := w.heap.size) (grown_new (b := w.heap.size) (grown_new (b := w.heap.size) (grown_new (b := w.heap.size) (grown_new (b := w.heap.size) (grown_new (b := w.heap.size) hG4 (by omega) 0 (.int .i64 i)) (by omega) 1 (.int .i64 t)) (by omega) 2 (.int .i64 k)) (by omega) 3 (.int .i64 ck)) (by omega) 4 (.int .i64 cs)) (by omega) 5 (.int .i64 cq)) (by omega) 6 (.string ckey)) (by omega) 7 (.string cold)) (by omega) 8 (.string cval)) (by omega) 9 (.string cunt)) (by omega) 10 (.int .i64 clim)) (by omega) 11 (.slice p n c)) (by omega) 12 (.slice q m d))
      have hO9 := ((((((((((((((((((((((((((hM4).cell (b := w.heap.size) (by omega) 0 (.int .i64 i))).cell (b := w.heap.size) (by omega) 1 (.int .i64 t))).cell (b := w.heap.size) (by omega) 2 (.int .i64 k))).cell (b := w.heap.size) (by omega) 3 (.int .i64 ck))).cell (b := w.heap.size) (by omega) 4 (.int .i64 cs))).cell (b := w.heap.size) (by omega) 5 (.int .i64 cq))).cell (b := w.heap.size) (by omega) 6 (.string ckey))).cell (b := w.heap.size) (by omega) 7 (.string cold))).cell (b := w.heap.size) (by omega) 8 (.string cval))).cell (b := w.heap.size) (by omega) 9 (.string cunt))).cell (b := w.heap.size) (by omega) 10 (.int .i64 clim))).cell (b := w.heap.size) (by omega) 11 (.slice p n c))).cell (b := w.heap.size) (by omega) 12 (.slice q m d))
      refine bodyPost_ret (ret_cell9 rfl _ _ w.heap.size _ _ _ _ rfl hF Tryz.underlying28 rfl (by kernel_rfl)) rfl ⟨⟨i, t, k, ⟨ck, cs, cq, ckey, cold, cval, cunt, clim⟩, ⟨⟨p, n, c⟩, ⟨q, m, d⟩, f⟩⟩, ?_, ?_, hO9.mono (by omega), hR9.bel, hG9⟩
      · rw [HW.out]; rfl
      · rw [HW.out]; exact HX.out

set_option maxRecDepth 100000 in
set_option maxHeartbeats 4000000 in
theorem readE_own (v : Value) (xs : List Int) (w : World) (hv : Has w v xs) (hB : IsB xs) (hl : xs.length ≤ 1073741824) :
    Calls Tryz.prog 167 #[v] w fun e w' => ∃ X : EntV, e = .returned (.tuple #[.agg X.arr, .int .i64 (whole10 goodE10 noE10 (pent10 (xs, false))).2]) ∧ X.e = (whole10 goodE10 noE10 (pent10 (xs, false))).1 ∧ OwnsE w' w.heap.size X ∧ Below w.heap.size w w' := by
  have hmf : ∀ (fn : Fn) (first cap : Array Value) (w : World), (Instr.makeFunc fn first cap).run Tryz.prog w = .ok (.func fn first cap) w := fun _ _ _ _ => rfl
  have hb1 : Below w.heap.size w (w.alloc (.cells #[.int .i64 0, .int .i64 0, .int .i64 0, .int .i64 0, .int .i64 0, .int .i64 0, .string em9, .string em9, .string em9, .string em9, .int .i64 0, .slice none 0 0, .slice none 0 0] 28)) := (Below.refl _ _).alloc (Nat.le_refl _) _
  have hbox : EntAt (w.alloc (.cells #[.int .i64 0, .int .i64 0, .int .i64 0, .int .i64 0, .int .i64 0, .int .i64 0, .string em9, .string em9, .string em9, .string em9, .int .i64 0, .slice none 0 0, .slice none 0 0] 28)) w.heap.size noEV := heap_alloc_new w _
  have hz1 : (w.alloc (.cells #[.int .i64 0, .int .i64 0, .int .i64 0, .int .i64 0, .int .i64 0, .int .i64 0, .string em9, .string em9, .string em9, .string em9, .int .i64 0, .slice none 0 0, .slice none 0 0] 28)).heap.size = w.heap.size + 1 := by simp
  have hR := Rdr.make hb1 hv hB hl 296
  have hsl : ∃ p n c, v = .slice p n c := by
    obtain ⟨p, c, hp, -⟩ := hv
    exact ⟨p, _, c, hp⟩
  have k1 := readerOf_any v (w.alloc (.cells #[.int .i64 0, .int .i64 0, .int .i64 0, .int .i64 0, .int .i64 0, .int .i64 0, .string em9, .string em9, .string em9, .string em9, .int .i64 0, .slice none 0 0, .slice none 0 0] 28)) hsl
  have hb2 : Below (w.alloc (.cells #[.int .i64 0, .int .i64 0, .int .i64 0, .int .i64 0, .int .i64 0, .int .i64 0, .string em9, .string em9, .string em9, .string em9, .int .i64 0, .slice none 0 0, .slice none 0 0] 28)).heap.size (w.alloc (.cells #[.int .i64 0, .int .i64 0, .int .i64 0, .int .i64 0, .int .i64 0, .int .i64 0, .string em9, .string em9, .string em9, .string em9, .int .i64 0, .slice none 0 0, .slice none 0 0] 28)) ((w.alloc (.cells #[.int .i64 0, .int .i64 0, .int .i64 0, .int .i64 0, .int .i64 0, .int .i64 0, .string em9, .string em9, .string em9, .string em9, .int .i64 0, .slice none 0 0, .slice none 0 0] 28)).alloc (.cells #[v, .bool false] 296)) := (Below.refl _ _).alloc (Nat.le_refl _) _
  have hbox2 : EntAt _ w.heap.size noEV := box_below hbox hb2
  have hwz : w.heap.size < ((w.alloc (.cells #[.int .i64 0, .int .i64 0, .int .i64 0, .int .i64 0, .int .i64 0, .int .i64 0, .string em9, .string em9, .string em9, .string em9, .int .i64 0, .slice none 0 0, .slice none 0 0] 28)).alloc (.cells #[v, .bool false] 296)).heap.size := by simp; omega
  have k2 := wholeE_any w _ _ (xs, false) hR
  generalize whole10 goodE10 noE10 (pent10 (xs, false)) = R at *
  obtain ⟨x0, err⟩ := R
  dsimp only at k2
  obtain ⟨p0, n0, c0_, rfl⟩ := hsl
  rw [hz1] at k2 k1
  clear hR hv hB hbox hb2
  go_enter Tryz.func167, Tryz.ntmps167
  go_wp2_with fail
  refine k1.mono ?_
  rintro _ w2 ⟨rfl, rfl⟩
  clear k1
  go_wp2_with fail
  generalize (w.alloc (.cells #[.int .i64 0, .int .i64 0, .int .i64 0, .int .i64 0, .int .i64 0, .int .i64 0, .string em9, .string em9, .string em9, .string em9, .int .i64 0, .slice none 0 0, .slice none 0 0] 28)).alloc (.cells #[.slice p0 n0 c0_, .bool false] 296) = W2 at *
  refine k2.mono ?_
  rintro _ w3 ⟨X, rfl, hX, hM, hb3, hg3⟩
  have hbox3 : EntAt w3 w.heap.size noEV := grown_box hg3 hbox2 (by omega)
  have HX : Hid (X.e = x0) := hX
  clear k2 hbox2 hX
  obtain ⟨i, t, k, ⟨ck, cs, cq, ckey, cold, cval, cunt, clim⟩, ⟨⟨p, n, c⟩, ⟨q, m, d⟩, f⟩⟩ := X
  unfold EntV.arr
  dsimp only
  have d0 := box_cell hbox3 0
  have d1 := box_cell hbox3 1
  have d2 := box_cell hbox3 2
  have d3 := box_cell hbox3 3
  have d4 := box_cell hbox3 4
  have d5 := box_cell hbox3 5
  have d6 := box_cell hbox3 6
  have d7 := box_cell hbox3 7
  have d8 := box_cell hbox3 8
  have d9 := box_cell hbox3 9
  have d10 := box_cell hbox3 10
  have d11 := box_cell hbox3 11
  have d12 := box_cell hbox3 12
  dsimp only [EntV.arr, noEV, zeroC9, noFV, nilS10] at d0 d1 d2 d3 d4 d5 d6 d7 d8 d9 d10 d11 d12
  have hlr := box_lt hbox3
  have fb := frozen9 hbox3
  go_wp2
  have hF := fillE (b := w.heap.size) (x0 := noEV) hbox3 i t k ck cs cq ckey cold cval cunt clim p n c q m d f
  have hO9 := ((((((((((((((((((((((((((hM).cell (b := w.heap.size) (by omega) 0 (.int .i64 i))).cell (b := w.heap.size) (by omega) 1 (.int .i64 t))).cell (b := w.heap.size) (by omega) 2 (.int .i64 k))).cell (b := w.heap.size) (by omega) 3 (.int .i64 ck))).cell (b := w.heap.size) (by omega) 4 (.int .i64 cs))).cell (b := w.heap.size) (by omega) 5 (.int .i64 cq))).cell (b := w.heap.size) (by omega) 6 (.string ckey))).cell (b := w.heap.size) (by omega) 7 (.string cold))).cell (b := w.heap.size) (by omega) 8 (.string cval))).cell (b := w.heap.size) (by omega) 9 (.string cunt))).cell (b := w.heap.size) (by omega) 10 (.int .i64 clim))).cell (b := w.heap.size) (by omega) 11 (.slice p n c))).cell (b := w.heap.size) (by omega) 12 (.slice q m d))
  have hB9 : Below w.heap.size w _ := (((((((((((((hb3.setCell (p := ⟨w.heap.size, 0, none⟩) (Nat.le_refl _) (.int .i64 i)).setCell (p := ⟨w.heap.size, 1, none⟩) (Nat.le_refl _) (.int .i64 t)).setCell (p := ⟨w.heap.size, 2, none⟩) (Nat.le_refl _) (.int .i64 k)).setCell (p := ⟨w.heap.size, 3, none⟩) (Nat.le_refl _) (.int .i64 ck)).setCell (p := ⟨w.heap.size, 4, none⟩) (Nat.le_refl _) (.int .i64 cs)).setCell (p := ⟨w.heap.size, 5, none⟩) (Nat.le_refl _) (.int .i64 cq)).setCell (p := ⟨w.heap.size, 6, none⟩) (Nat.le_refl _) (.string ckey)).setCell (p := ⟨w.heap.size, 7, none⟩) (Nat.le_refl _) (.string cold)).setCell (p := ⟨w.heap.size, 8, none⟩) (Nat.le_refl _) (.string cval)).setCell (p := ⟨w.heap.size, 9, none⟩) (Nat.le_refl _) (.string cunt)).setCell (p := ⟨w.heap.size, 10, none⟩) (Nat.le_refl _) (.int .i64 clim)).setCell (p := ⟨w.heap.size, 11, none⟩) (Nat.le_refl _) (.slice p n c)).setCell (p := ⟨w.heap.size, 12, none⟩) (Nat.le_refl _) (.slice q m d))
  exact bodyPost_ret (ret_cell9 rfl _ _ w.heap.size _ _ _ _ rfl hF Tryz.underlying28 rfl (by kernel_rfl)) rfl ⟨⟨i, t, k, ⟨ck, cs, cq, ckey, cold, cval, cunt, clim⟩, ⟨⟨p, n, c⟩, ⟨q, m, d⟩, f⟩⟩, rfl, HX.out, hO9.mono (by omega), hB9⟩

def sameH10 (a b : Hard10) : Bool := decide (a.t = b.t) && decide (a.v = b.v) && decide (a.c = b.c)
set_option maxRecDepth 100000 in
set_option maxHeartbeats 1500000 in
theorem eqlH (t v c t' v' c' : Int) (W : World) : Sem.run Tryz.prog (binOp .eql 30 (.agg #[.int .i64 t, .int .i64 v, .int .i64 c]) (.agg #[.int .i64 t', .int .i64 v', .int .i64 c'])) W = .ok (.bool (sameH10 ⟨t, v, c⟩ ⟨t', v', c'⟩)) W := by
  have u3 := Tryz.underlying3
  have a3 := Tryz.isAgg3
  have z3 := Tryz.sizeOf3
  have hS : Tryz.prog.underlying 30 = some (.struct (Tryz.prog.fieldsOf 30)) := by kernel_rfl
  have hp : Tryz.prog.stoodInHeld 30 = false := by kernel_rfl
  rw [run_eql_struct, show (10000 : Nat) = 9999 + 1 from rfl, run_equalIn_agg W 9999 30 _ _ hS hp]
  simp only [Program.fieldsOf, Tryz.underlying30]
  go_simp
  unfold sameH10
  by_cases h1 : t = t'
  case neg => simp [h1]
  by_cases h2 : v = v'
  case neg => simp [h1, h2]
  by_cases h3 : c = c'
  case neg => simp [h1, h2, h3]
  simp [h1, h2, h3]

end Go.Proofs.YtkbbhllchombdaaGreatDoor
