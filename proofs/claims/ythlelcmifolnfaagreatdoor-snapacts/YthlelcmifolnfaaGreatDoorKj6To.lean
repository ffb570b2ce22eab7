import Derived.Test.YthlelcmifolnfaaGreatDoorKj4To
import Derived.Test.YthlelcmifolnfaaGreatDoorHRowETo
import Derived.Test.YthlelcmifolnfaaGreatDoorKd2To
namespace Go.Proofs.YthlelcmifolnfaaGreatDoor
open Go.RowKit Go.Shelf Go.Maps
attribute [local go_sem ↓] ldS_exec stS_exec ldS_execI stS_execI ldS_run ldS_box oc_int oc_bool oc_string oc_slice oc_pointer
def SvE (w : World) (r : Nat) (T : Nat → Prop) (R : Nat × DM) (e : Ending) (w' : World) : Prop := e = .returned (.int .i64 (R.1 : Nat)) ∧ RefAt w' r T R.2 ∧ Turn T w w'

set_option maxRecDepth 100000 in
set_option maxHeartbeats 1000000 in
theorem rsave12_any {w : World} {r c : Nat} {T : Nat → Prop} {M : DM} (h : RefAt w r T M) (hO : M.OkN c) (hc : c + 16778000 < 1099511627776) (hT : ∀ k, w.heap.size ≤ k → T k) (x : SnapV) (hF : FitsS w x) (hX : ∀ k, inSn x k → ¬ T k) (hd : x.d.length ≤ 1048576) :
    Calls Tryz.prog 20 #[.pointer (some ⟨r, 0, none⟩), .agg x.arr] w (SvE w r T (save12 M x.s)) := by
  obtain ⟨w1, hw1⟩ : ∃ w1, w.alloc (.cells x.arr 27) = w1 := ⟨_, rfl⟩
  have hb1 : Below w.heap.size w w1 := by rw [← hw1]; exact (Below.refl _ _).alloc (Nat.le_refl _) _
  have hz1 : w1.heap.size = w.heap.size + 1 := by rw [← hw1]; simp
  have hx1 : SnapAt w1 w.heap.size x := by rw [← hw1]; exact heap_alloc_new w _
  have hF1 := hF.below hb1
  obtain ⟨S1, hS1⟩ : ∃ S1 : Nat → Prop, S1 = fun k => T k ∧ k < w.heap.size := ⟨_, rfl⟩
  have R1 : RefS w1 w1 r S1 M := RefS.of ((h.mono fun k hk hs => by rw [hS1]; exact ⟨hs, hk⟩).below hb1)
  -- behind calls of the disk's
  have HSv : Hid (∀ V N, RefS w1 V r S1 N → SnapAt V w.heap.size x ∧ FitsS V x) := fun V N k => by
    have ht := k.turn
    refine ⟨(ht.block w.heap.size (by omega) (by rw [hS1]; exact fun hh => by omega)).trans hx1, hF1.keepS12 (S := inSn x) ⟨ht.size, fun k hk => ht.block k (by have := hF.inSn_lt hk; omega) (by rw [hS1]; exact fun hh => hX k hk hh.1)⟩ fun k hk => hk⟩
  have HEnd : Hid (∀ V N, RefS w1 V r S1 N → RefAt V r T N ∧ Turn T w V) := fun V N k => by
    obtain ⟨S2, k1, k2, k3⟩ := k.ex
    rw [hS1] at k2 k3
    refine ⟨k1.mono fun i _ hi => (k3 i hi).elim (fun q => q.1) fun q => hT i (by omega), (Turn.of_below hb1 (Nat.le_refl _)).wide k2 fun i hi => .inl hi.1⟩
  obtain ⟨c3, hlt⟩ := R1.off
  have HF : Hid (FitsS w x) := hF
  have HO : Hid (M.OkN c) := hO
  have kg := rgoodSnap_any x w1 hF1
  have hl1 := ldS_box w1 _ _ _ _ hx1 rfl
  have hnew : newB12 = (⟨#[115, 110, 97, 112, 46, 110, 101, 119]⟩ : ByteArray) := by decide +kernel
  have HNew : Hid (newB12 = (⟨#[115, 110, 97, 112, 46, 110, 101, 119]⟩ : ByteArray)) := hnew
  have HR1 : Hid (RefS w1 w1 r S1 M) := R1
  have HB1 : Hid (Below w.heap.size w w1) := hb1
  clear h hT hX hx1 R1 hS1 hb1 hF hO hF1
  cases hoff : M.off with
  | true =>
    have HE : Hid (save12 M x.s = (9, M)) := if_pos hoff
    rw [hoff] at c3
    obtain ⟨e1, e2⟩ := HEnd.out _ _ HR1.out
    have E12 : Hid _ := And.intro e1 e2
    clear kg hl1 e1 e2
    go_enter Tryz.func20, Tryz.ntmps20
    go_wp2
    go_ret
    exact ⟨by rw [HE.out]; rfl, by rw [HE.out]; exact E12.out.1, E12.out.2⟩
  | false =>
    rw [hoff] at c3
    by_cases hgd : ¬ (goodS10 x.s = true ∧ x.i ≤ 999999999)
    · have HE : Hid (save12 M x.s = (2, M)) := save_bad12 hoff hgd
      cases hg : goodS10 x.s with
      | false =>
        rw [hg] at kg
        go_enter Tryz.func20, Tryz.ntmps20
        go_wp2_with fail
        refine kg.mono ?_
        rintro _ w2 ⟨rfl, hb2⟩
        have HRe : Hid _ := HEnd.out _ _ (HR1.out.below hb2)
        clear kg hl1 hb2
        go_wp2
        go_ret
        exact ⟨by rw [HE.out]; rfl, by rw [HE.out]; exact HRe.out.1, HRe.out.2⟩
      | true =>
        rw [hg] at kg
        have hgt : 999999999 < x.i := by
          rcases Int.lt_or_le 999999999 x.i with h | h
          · exact h
          · exact absurd ⟨hg, h⟩ hgd
        go_enter Tryz.func20, Tryz.ntmps20
        go_wp2_with fail
        refine kg.mono ?_
        rintro _ w2 ⟨rfl, hb2⟩
        have HRe : Hid _ := HEnd.out _ _ (HR1.out.below hb2)
        obtain ⟨x2, -⟩ := HSv.out _ _ (HR1.out.below hb2)
        obtain ⟨ci, -⟩ := SnapAt.cells x2
        have lx := box_lt x2
        clear kg hl1 hb2 x2 hgd
        go_wp2
        go_ret
        exact ⟨by rw [HE.out]; rfl, by rw [HE.out]; exact HRe.out.1, HRe.out.2⟩
    · obtain ⟨hg, hi⟩ := Decidable.not_not.1 hgd
      clear hgd
      have hi' : x.i ≤ 999999999 := hi
      have hfw := good_few hg
      have hfF : FewF x.f.f := ⟨by have : x.f.f.vs.length ≤ 9 := hfw.1; omega, by have : x.f.f.ls.length ≤ 9 := hfw.2.1; omega⟩
      have HChs : Hid (chs12 x.s = chunks12 x.s) := if_pos hg
      have HBc : Hid (∀ b ∈ chunks12 x.s, isB8 b) := chunks_isB12 (s := x.s) HF.out.b
      have HCl : Hid (∀ b ∈ chunks12 x.s, b.length ≤ 1099511627776) := fun b hb => by
        have := chunk_lens hb
        omega
      have hcl : (chunks12 x.s).length ≤ 300 := chunks_len12 (s := x.s) hfF hd
      have HO1 : Hid ((sav1 M).2.OkN (c + 400)) := st12_ok (s := x.s) HO.out HF.out.b hfF hd 1 (by omega)
      have HO1' : Hid ((sav1 M).2.OkN (c + 1)) := HO.out.create _
      have HO2 : Hid ((sav2 M x.s).2.OkN (c + 400)) := st12_ok (s := x.s) HO.out HF.out.b hfF hd 2 (by omega)
      have HO3 : Hid ((sav3 M x.s).2.OkN (c + 400)) := st12_ok (s := x.s) HO.out HF.out.b hfF hd 3 (by omega)
      have HO4 : Hid ((sav4 M x.s).2.OkN (c + 400)) := st12_ok (s := x.s) HO.out HF.out.b hfF hd 4 (by omega)
      have hE : save12 M x.s = sav5 M x.s := save_go12 hoff hg hi
      have A1 : Hid ((sav1 M).1 ≠ 0 → save12 M x.s = sav1 M) := fun h => by rw [hE]; exact sav_end12 1 4 (by omega) rfl h
      have A2 : Hid ((sav1 M).1 = 0 → sav2 M x.s = app12 newB12 (sav1 M).2 (chunks12 x.s)) := fun h => if_pos h
      have A2' : Hid ((sav2 M x.s).1 ≠ 0 → save12 M x.s = sav2 M x.s) := fun h => by rw [hE]; exact sav_end12 2 3 (by omega) rfl h
      have A3 : Hid ((sav2 M x.s).1 = 0 → sav3 M x.s = (sav2 M x.s).2.syncs) := fun h => if_pos h
      have A3' : Hid ((sav3 M x.s).1 ≠ 0 → save12 M x.s = sav3 M x.s) := fun h => by rw [hE]; exact sav_end12 3 2 (by omega) rfl h
      have A4 : Hid ((sav3 M x.s).1 = 0 → sav4 M x.s = (sav3 M x.s).2.rename newB12 (nameB12 x.i)) := fun h => if_pos h
      have A4' : Hid ((sav4 M x.s).1 ≠ 0 → save12 M x.s = sav4 M x.s) := fun h => by rw [hE]; exact sav_end12 4 1 (by omega) rfl h
      have A5 : Hid ((sav4 M x.s).1 = 0 → save12 M x.s = drop12 x.i (sav4 M x.s).2 (files12 (sav4 M x.s).2.listT).reverse) := fun h => by rw [hE]; exact if_pos h
      have KC : Hid (∀ V, RefS w1 V r S1 M → Calls Tryz.prog 30 #[.pointer (some ⟨r, 0, none⟩), .string ⟨#[115, 110, 97, 112, 46, 110, 101, 119]⟩] V fun e w' => e = .returned (.int .i64 ((sav1 M).1 : Nat)) ∧ RefS w1 w' r S1 (sav1 M).2) := fun V hV => by
        rw [← hnew]
        exact hV.create HO.out (by omega) (by rw [hnew]; decide)
      rw [hg] at kg
      have kch : Hid (∀ V, FitsS V x → Calls Tryz.prog 8 #[.agg x.arr] V (ChN x V)) := fun V hV => rchunksN_any x V hV hd
      clear hfw hfF hg hi hE
      generalize save12 M x.s = R at *
      generalize sav1 M = C1 at *
      generalize sav2 M x.s = C2 at *
      generalize sav3 M x.s = C3 at *
      generalize sav4 M x.s = C4 at *
      generalize chunks12 x.s = chs at *
      obtain ⟨e1, M1⟩ := C1
      obtain ⟨e2, M2⟩ := C2
      obtain ⟨e3, M3⟩ := C3
      obtain ⟨e4, M4⟩ := C4
      dsimp only at HO1 HO1' HO2 HO3 HO4 A1 A2 A2' A3 A3' A4 A4' A5 KC
      go_enter Tryz.func20, Tryz.ntmps20
      go_wp2_with fail
      refine kg.mono ?_
      rintro _ w2 ⟨rfl, hb2⟩
      have hR2 := HR1.out.below hb2
      obtain ⟨x2, -⟩ := HSv.out _ _ hR2
      obtain ⟨ci, -⟩ := SnapAt.cells x2
      have lx := box_lt x2
      have kc := KC.out w2 hR2
      clear kg hl1 hb2 x2 hR2 KC HR1 c3
      go_wp2_with fail
      refine kc.mono ?_
      rintro _ w3 ⟨rfl, hR3⟩
      clear kc ci lx
      by_cases he1 : ¬ e1 = 0
      · have hce' : ((e1 : Int) != 0) = true := by simpa using he1
        have HRe : Hid _ := HEnd.out _ _ hR3
        have HR : Hid (R = (e1, M1)) := A1.out he1
        clear hR3 he1
        go_wp2
        go_ret
        exact ⟨by rw [HR.out]; rfl, by rw [HR.out]; exact HRe.out.1, HRe.out.2⟩
      have he1' : e1 = 0 := Decidable.not_not.1 he1
      have HA2 : Hid ((e2, M2) = app12 newB12 M1 chs) := A2.out he1'
      clear he1 A1 A2
      subst he1'
      obtain ⟨x3, F3⟩ := HSv.out _ _ hR3
      have hl3 := ldS_box w3 _ _ _ _ x3 rfl
      have k4 := kch.out w3 F3
      have HR3 : Hid (RefS w1 w3 r S1 M1) := hR3
      clear hR3 x3 F3 kch
      go_wp2_with fail
      refine k4.mono ?_
      rintro _ w4 ⟨l, ys, rfl, hys, hrow, hnew4, hb4⟩
      obtain ⟨S4, hR4, hS4, hback⟩ := HR3.out.rebase hb4
      have HS4 : Hid (∀ k, S4 k → k < w3.heap.size) := hS4
      have HB4 : Hid (∀ V N, RefS w4 V r S4 N → RefS w1 V r S1 N) := hback
      have HRow : Hid (RowC w4 w3.heap.size l ys) := hrow
      have HNw : Hid (NewC w3.heap.size ys) := hnew4
      rw [HChs.out] at hys
      have HYs : Hid (ys.map Prod.snd = chs) := hys
      have hln : l.n = ys.length := hrow.num
      have hyl : ys.length = chs.length := by rw [← hys, List.length_map]
      have hR4' : Hid (RefS w4 w4 r S4 M1) := hR4
      have KApp : Hid (∀ V N (cc : Nat) (v : Value) (bs : List Int), RefS w4 V r S4 N → N.OkN cc → cc < 1099511627776 → HasX w4 S4 v bs → bs.length ≤ 1099511627776 → Calls Tryz.prog 32 #[.pointer (some ⟨r, 0, none⟩), .string ⟨#[115, 110, 97, 112, 46, 110, 101, 119]⟩, v] V fun e w' => e = .returned (.int .i64 ((N.append newB12 bs).1 : Nat)) ∧ RefS w4 w' r S4 (N.append newB12 bs).2) := fun V N cc v bs k1 k2 k3 k4 k5 => by
        rw [← hnew]
        exact k1.append k2 k3 newB12 k4 k5
      generalize hnn : ys.length = nn at *
      have HNN : Hid (ys.length = nn) := hnn
      have HYl : Hid (nn = chs.length) := hyl
      have hn3 : nn ≤ 300 := by omega
      clear hyl hcl hnn k4 hl3 hb4 hR4 hS4 hback hrow hnew4 hys hnew
      rw [hln]
      go_wp2
      go_loopw [34] (fun s34 wr => ∃ j : Nat, s34 = .int .i64 (j : Nat) ∧ j ≤ nn ∧ Hid ((app12 newB12 M1 (chs.take j)).1 = 0) ∧ Hid (RefS w4 wr r S4 (app12 newB12 M1 (chs.take j)).2)) (fun s34 _ => nn - (intOf s34).toNat)
      case atStart => exact ⟨0, rfl, Nat.zero_le _, rfl, hR4'⟩
      case round =>
        obtain ⟨j, rfl, hj, HZ, HRr⟩ := hrel
        by_cases hjn : j < nn
        · obtain ⟨g, hp, -, hcc, hgl, ⟨yl, yb⟩, hyj, hcell, hym⟩ := HRow.out.at (j := j) (by rw [HNN.out]; exact hjn)
          dsimp only at hcell
          have hgn : w3.heap.size ≤ g := (World.ownsRow.lt HRow.out.row g (by rw [hp]; rfl)).1
          have hcr : wr.cell? ⟨g, j, none⟩ = some (.slice yl.p yl.n yl.c) := (HRr.out.cellT (p := ⟨g, j, none⟩) hgl (fun hk => by have := HS4.out g hk; omega)).trans hcell
          have hgr : g < wr.heap.size := Nat.lt_of_lt_of_le hgl HRr.out.size
          have hcj : chs[j]? = some yb := by rw [← HYs.out, List.getElem?_map, hyj]; rfl
          have hbx : HasX w4 S4 (slV (yl, yb)) yb := hasX_row12 (HRow.out.has _ hym) (HNw.out _ hym) HS4.out
          have hjl : (chs.take j).length = j := by have := HYl.out; rw [List.length_take]; omega
          have hOj := app_nz newB12 (chs.take j) M1 HO1'.out (fun b hb => HBc.out b (List.mem_of_mem_take hb))
          rw [hjl] at hOj
          obtain ⟨B1, B2⟩ := app_at12 hcj HZ.out
          have ka := KApp.out wr _ _ _ _ HRr.out hOj (by omega) hbx (HCl.out yb (List.mem_of_getElem? hcj))
          have HB1' : Hid (app12 newB12 M1 (chs.take (j + 1)) = (app12 newB12 M1 (chs.take j)).2.append newB12 yb) := B1
          have HB2' : Hid (((app12 newB12 M1 (chs.take j)).2.append newB12 yb).1 ≠ 0 → app12 newB12 M1 chs = (app12 newB12 M1 (chs.take j)).2.append newB12 yb) := B2
          rw [hln] at hcc
          clear B1 B2 hOj hjl hbx hcj hym hyj hcell hgn HZ HRr
          generalize (app12 newB12 M1 (chs.take j)).2.append newB12 yb = AA at *
          obtain ⟨ae, AM⟩ := AA
          dsimp only at ka HB2'
          unfold slV at ka
          dsimp only at ka
          rw [hp] at *
          go_wp2_with fail
          refine ka.mono ?_
          rintro _ w6 ⟨rfl, hR6⟩
          clear ka hcr
          by_cases hae : ¬ ae = 0
          · have hce' : ((ae : Int) != 0) = true := by simpa using hae
            have HRe : Hid _ := HEnd.out _ _ (HB4.out _ _ hR6)
            have HR : Hid (R = (ae, AM)) := by
              have e := HA2.out.trans (HB2'.out hae)
              have h2 : e2 ≠ 0 := by rw [show e2 = ae from congrArg Prod.fst e]; exact hae
              rw [Hid, A2'.out h2, e]
            clear hR6 hae
            go_wp2
            go_ret
            exact ⟨by rw [HR.out]; rfl, by rw [HR.out]; exact HRe.out.1, HRe.out.2⟩
          have hae' : ae = 0 := Decidable.not_not.1 hae
          have HZ6 : Hid ((app12 newB12 M1 (chs.take (j + 1))).1 = 0) := by rw [Hid, HB1'.out]; exact hae'
          have HR6 : Hid (RefS w4 w6 r S4 (app12 newB12 M1 (chs.take (j + 1))).2) := by rw [Hid, HB1'.out]; exact hR6
          clear hae hR6 HB1' HB2'
          subst hae'
          go_wp2
          go_roundw
          case rel => exact ⟨j + 1, by go_num, by omega, HZ6, HR6⟩
          case measure => simp only [intOf]; omega
        · obtain rfl : j = nn := by omega
          have hall : chs.take j = chs := List.take_of_length_le (by have := HYl.out; omega)
          have hz := HZ.out
          have hRr := HRr.out
          rw [hall] at hz hRr
          have he2 : e2 = 0 := (congrArg Prod.fst HA2.out).trans hz
          have hM2 : M2 = (app12 newB12 M1 chs).2 := congrArg Prod.snd HA2.out
          rw [← hM2] at hRr
          have hR5 : RefS w1 wr r S1 M2 := HB4.out _ _ hRr
          have HA3 : Hid ((e3, M3) = M2.syncs) := A3.out he2
          have ks := hR5.sync HO2.out (by omega)
          rw [← HA3.out] at ks
          dsimp only at ks
          clear hall hz hRr he2 hM2 hR5 HZ HRr HA2 HRow HNw HYs HB4 HS4 hR4' KApp A2' A3 HO1 HO1' HYl
          go_wp2_with fail
          refine ks.mono ?_
          rintro _ w6 ⟨rfl, hR6⟩
          clear ks
          by_cases he3 : ¬ e3 = 0
          · have hce' : ((e3 : Int) != 0) = true := by simpa using he3
            have HRe : Hid _ := HEnd.out _ _ hR6
            have HR : Hid (R = (e3, M3)) := A3'.out he3
            clear hR6 he3
            go_wp2
            go_ret
            exact ⟨by rw [HR.out]; rfl, by rw [HR.out]; exact HRe.out.1, HRe.out.2⟩
          have he3' : e3 = 0 := Decidable.not_not.1 he3
          have HA4 : Hid ((e4, M4) = M3.rename newB12 (nameB12 x.i)) := A4.out he3'
          clear he3 A4 A3'
          subst he3'
          obtain ⟨x6, -⟩ := HSv.out _ _ hR6
          obtain ⟨ci6, -⟩ := SnapAt.cells x6
          have lx6 := box_lt x6
          have kn := rname12_any x.i w6
          have KRn : Hid (∀ V, RefS w1 V r S1 M3 → Calls Tryz.prog 75 #[.pointer (some ⟨r, 0, none⟩), .string ⟨#[115, 110, 97, 112, 46, 110, 101, 119]⟩, .string (nameB12 x.i)] V fun e w' => e = .returned (.int .i64 (e4 : Nat)) ∧ RefS w1 w' r S1 M4) := fun V hV => by
            have k := hV.rename HO3.out (by omega) (a := newB12) (b := nameB12 x.i) (by have := nameB_size12 x.i; unfold maxLen; omega)
            rw [← HA4.out, HNew.out] at k
            exact k
          have HR6 : Hid (RefS w1 w6 r S1 M3) := hR6
          clear x6 hR6
          go_wp2_with fail
          refine kn.mono ?_
          rintro _ w7 ⟨rfl, hb7⟩
          have kr := KRn.out w7 (HR6.out.below hb7)
          clear kn ci6 lx6 hb7 KRn HR6
          go_wp2_with fail
          refine kr.mono ?_
          rintro _ w8 ⟨rfl, hR8⟩
          clear kr
          by_cases he4 : ¬ e4 = 0
          · have hce' : ((e4 : Int) != 0) = true := by simpa using he4
            have HRe : Hid _ := HEnd.out _ _ hR8
            have HR : Hid (R = (e4, M4)) := A4'.out he4
            clear hR8 he4
            go_wp2
            go_ret
            exact ⟨by rw [HR.out]; rfl, by rw [HR.out]; exact HRe.out.1, HRe.out.2⟩
          have he4' : e4 = 0 := Decidable.not_not.1 he4
          have HA5 : Hid (R = drop12 x.i M4 (files12 M4.listT).reverse) := A5.out he4'
          clear he4 A5 A4'
          subst he4'
          have HR8 : Hid (RefS w1 w8 r S1 M4) := hR8
          obtain ⟨S8, r8, -, -⟩ := hR8.ex
          have kf := rfiles12_any r8 HO4.out.inv
          have hfl : (files12 M4.listT).length ≤ 16777216 := by
            have h2 := files12_len M4.listT
            have h3 : M4.listT.length ≤ 16777216 := by
              have := HO4.out.inv.count
              unfold DM.listT
              split
              · exact Nat.zero_le _
              · unfold DM.names nms
                rw [List.length_map]
                exact this
            omega
          generalize files12 M4.listT = fs at *
          clear hR8 r8
          go_wp2_with fail
          refine kf.mono ?_
          rintro _ w9 ⟨⟨p, m, q, rfl, ho9⟩, hb9⟩
          obtain ⟨hm, hmq, hat⟩ := ho9.at12
          subst hm
          obtain ⟨S9, hR9, hS9, hback9⟩ := HR8.out.rebase hb9
          have HAt : Hid (∀ j, j < fs.length → ∃ g, p = some ⟨g, 0, none⟩ ∧ w8.heap.size ≤ g ∧ g < w9.heap.size ∧ w9.cell? ⟨g, j, none⟩ = some (.int .i64 (fs.getD j 0))) := hat
          have HS9 : Hid (∀ k, S9 k → k < w8.heap.size) := hS9
          have HB9 : Hid (∀ V N, RefS w9 V r S9 N → RefS w1 V r S1 N) := hback9
          have HR9 : Hid (RefS w9 w9 r S9 M4) := hR9
          clear kf ho9 hat hb9 HR8 hR9 hS9 hback9
          go_wp2
          go_loopw [12] (fun s12 wr => ∃ (j : Nat) (z : Int), s12 = .int .i64 z ∧ Hid (z = (fs.length : Int) - 1 - (j : Int)) ∧ j ≤ fs.length ∧ Hid ((drop12 x.i M4 (fs.reverse.take j)).1 = 0) ∧ Hid (RefS w9 wr r S9 (drop12 x.i M4 (fs.reverse.take j)).2)) (fun s12 _ => (intOf s12 + 1).toNat)
          case atStart => exact ⟨0, _, rfl, by simp [Hid], Nat.zero_le _, rfl, HR9⟩
          case round =>
            obtain ⟨j, z, rfl, HQ, hj, HZ, HRr⟩ := hrel
            by_cases hjn : j < fs.length
            · obtain ⟨i, hi⟩ : ∃ i : Nat, fs.length - 1 - j = i := ⟨_, rfl⟩
              obtain rfl : z = (i : Int) := by have := HQ.out; omega
              have hin : i < fs.length := by omega
              obtain ⟨g, hp, hg1, hg2, hcl⟩ := HAt.out i hin
              have hcr : wr.cell? ⟨g, i, none⟩ = some (.int .i64 (fs.getD i 0)) := (HRr.out.cellT (p := ⟨g, i, none⟩) hg2 (fun hk => by have := HS9.out g hk; omega)).trans hcl
              have hgr : g < wr.heap.size := Nat.lt_of_lt_of_le hg2 HRr.out.size
              have hsj : fs.reverse.getD j 0 = fs.getD i 0 := by
                have := rev_getD12 hin
                rw [show fs.length - 1 - i = j by omega] at this
                exact this
              have hjr : j < fs.reverse.length := by rw [List.length_reverse]; exact hjn
              have hjl : (fs.reverse.take j).length = j := by rw [List.length_take]; omega
              have hOj := okN_drop12 x.i (fs.reverse.take j) HO4.out
              rw [hjl] at hOj
              obtain ⟨B1, B2⟩ := drop_at12 (n := x.i) (M := M4) hjr HZ.out
              rw [hsj, drop12_one] at B1 B2
              obtain ⟨x9, -⟩ := HSv.out _ _ (HB9.out _ _ HRr.out)
              obtain ⟨ci9, -⟩ := SnapAt.cells x9
              have lx9 := box_lt x9
              have q1 : ∀ m, (wr.drewN m).cell? ⟨g, i, none⟩ = some (.int .i64 (fs.getD i 0)) := fun m => ((below_drewN8 (Below.refl wr.heap.size wr) m).cell (p := ⟨g, i, none⟩) hgr).trans hcr
              have q2 : ∀ m, (wr.drewN m).cell? ⟨w.heap.size, 0, none⟩ = some (.int .i64 x.i) := fun m => ((below_drewN8 (Below.refl wr.heap.size wr) m).cell (p := ⟨w.heap.size, 0, none⟩) lx9).trans ci9
              have HB1' : Hid _ := B1
              have HB2' : Hid _ := B2
              have HOj : Hid _ := hOj
              have kn := fun V => rname12_any (fs.getD i 0) V
              have hnz := nameB_size12 (fs.getD i 0)
              rw [hp] at *
              clear B1 B2 hOj hjl hjr hsj hcl x9 ci9 hcr HQ
              generalize hD : drop12 x.i M4 (fs.reverse.take j) = D at *
              obtain ⟨dz, N⟩ := D
              dsimp only at HZ HRr HB1' HB2' HOj
              have KRm : Hid (∀ V, RefS w9 V r S9 N → Calls Tryz.prog 34 #[.pointer (some ⟨r, 0, none⟩), .string (nameB12 (fs.getD i 0))] V fun e w' => e = .returned (.int .i64 ((N.remove (nameB12 (fs.getD i 0))).1 : Nat)) ∧ RefS w9 w' r S9 (N.remove (nameB12 (fs.getD i 0))).2) := fun V hV => hV.remove HOj.out (by omega) _
              generalize N.remove (nameB12 (fs.getD i 0)) = RM at *
              generalize nameB12 (fs.getD i 0) = nm at *
              generalize fs.getD i 0 = a at *
              obtain ⟨re, RN⟩ := RM
              dsimp only at HB1' HB2' KRm
              clear hD hnz HOj
              by_cases ha : a < x.i
              · rw [if_pos ha] at HB1' HB2'
                go_wp2
                go_quiet (fail)
                have hR7 : RefS w9 (wr.drewN nq) r S9 N := HRr.out.below (below_drewN8 (Below.refl _ _) nq)
                have q3 := q1 nq
                have kn2 := kn (wr.drewN nq)
                have hgV : g < (wr.drewN nq).heap.size := hgr
                clear q1 q2 kn
                generalize wr.drewN nq = V at *
                go_wp2_with fail
                refine kn2.mono ?_
                rintro _ y1 ⟨rfl, hy1⟩
                have krm := KRm.out y1 (hR7.below hy1)
                clear kn2 q3 hy1 hR7 KRm
                go_wp2_with fail
                refine krm.mono ?_
                rintro _ y2 ⟨rfl, hR8⟩
                clear krm
                by_cases hre : re = 9
                · rw [if_pos hre] at HB1' HB2'
                  have HRe : Hid _ := HEnd.out _ _ (HB9.out _ _ hR8)
                  have HR : Hid (R = (9, RN)) := by rw [Hid, HA5.out]; exact HB2'.out rfl
                  clear hR8 HB1' HB2'
                  subst hre
                  go_wp2
                  go_ret
                  exact ⟨by rw [HR.out]; rfl, by rw [HR.out]; exact HRe.out.1, HRe.out.2⟩
                · rw [if_neg hre] at HB1' HB2'
                  have hre' : ((re : Int) == 9) = false := by
                    rw [beq_eq_false_iff_ne]
                    omega
                  have HZ9 : Hid ((drop12 x.i M4 (fs.reverse.take (j + 1))).1 = 0) := by rw [Hid, HB1'.out]
                  have HR9' : Hid (RefS w9 y2 r S9 (drop12 x.i M4 (fs.reverse.take (j + 1))).2) := by rw [Hid, HB1'.out]; exact hR8
                  clear hR8 HB1' HB2' hre
                  go_wp2
                  go_roundw
                  case rel => exact ⟨j + 1, _, rfl, by rw [Hid]; omega, by omega, HZ9, HR9'⟩
                  case measure => simp only [intOf]; omega
              · rw [if_neg ha] at HB1' HB2'
                have HZ9 : Hid ((drop12 x.i M4 (fs.reverse.take (j + 1))).1 = 0) := by rw [Hid, HB1'.out]
                have HR9' : Hid (∀ m, RefS w9 (wr.drewN m) r S9 (drop12 x.i M4 (fs.reverse.take (j + 1))).2) := fun m => by rw [HB1'.out]; exact HRr.out.below (below_drewN8 (Below.refl _ _) m)
                clear HB1' HB2' KRm kn
                go_wp2
                go_quiet (fail)
                go_wp2
                go_roundw
                case rel => exact ⟨j + 1, _, rfl, by rw [Hid]; omega, by omega, HZ9, HR9'.out _⟩
                case measure => simp only [intOf]; omega
            · obtain rfl : j = fs.length := by omega
              have hneg : ¬ (0 : Int) ≤ z := by have := HQ.out; omega
              have hall : fs.reverse.take fs.length = fs.reverse := List.take_of_length_le (by rw [List.length_reverse]; exact Nat.le_refl _)
              have hz := HZ.out
              have hRr := HRr.out
              rw [hall, ← HA5.out] at hz hRr
              have HRe : Hid _ := HEnd.out _ _ (HB9.out _ _ hRr)
              have HR : Hid (R.1 = 0) := hz
              clear hall hz hRr HZ HRr HAt
              go_wp2
              go_ret
              exact ⟨by rw [HR.out]; rfl, HRe.out.1, HRe.out.2⟩
end Go.Proofs.YthlelcmifolnfaaGreatDoor

namespace Go.Proofs.YthlelcmifolnfaaGreatDoor
open Go.RowKit Go.Shelf Go.Maps
def ldK (v : Value) : Sem Value := Instr.loadAt 48 v
def stK (v x : Value) : Sem Unit := Instr.storeAt 48 v x
theorem ldK_exec (ρ : Operand → Value) (d : Option Tmp) (x : Operand) (t : TypeId) (p : String) (af : Array Edge) (g : Option (Nat × Bool)) (w : World) : (execOp ρ { dst := d, op := .load 48 x, type := t, pos := p, after := af, guard := g }).run Tryz.prog w = ((ldK (ρ x)).run Tryz.prog w).andThen fun v w' => .ok (.value v) w' := by
  unfold execOp ldK
  simp only [Sem.run_bind, Sem.run_pure]
theorem stK_exec (ρ : Operand → Value) (d : Option Tmp) (x y : Operand) (t : TypeId) (p : String) (af : Array Edge) (g : Option (Nat × Bool)) (w : World) : (execOp ρ { dst := d, op := .store 48 x y, type := t, pos := p, after := af, guard := g }).run Tryz.prog w = ((stK (ρ x) (ρ y)).run Tryz.prog w).andThen fun _ w' => .ok .skip w' := by
  unfold execOp stK
  simp only [Sem.run_bind, Sem.run_pure]
theorem ldK_execI (ro : Option Nat) (ρ : Operand → Value) (d : Option Tmp) (x : Operand) (t : TypeId) (p : String) (af : Array Edge) (g : Option (Nat × Bool)) (w : World) : (Oper.semAt ro ρ { dst := d, op := .load 48 x, type := t, pos := p, after := af, guard := g }).run Tryz.prog w = ((ldK (ρ x)).run Tryz.prog w).andThen fun v w' => .ok (.value v) w' := by
  rw [Oper.semAt_eq _ _ _ (by intro c h; cases h)]
  exact ldK_exec ρ d x t p af g w
theorem stK_execI (ro : Option Nat) (ρ : Operand → Value) (d : Option Tmp) (x y : Operand) (t : TypeId) (p : String) (af : Array Edge) (g : Option (Nat × Bool)) (w : World) : (Oper.semAt ro ρ { dst := d, op := .store 48 x y, type := t, pos := p, after := af, guard := g }).run Tryz.prog w = ((stK (ρ x) (ρ y)).run Tryz.prog w).andThen fun _ w' => .ok .skip w' := by
  rw [Oper.semAt_eq _ _ _ (by intro c h; cases h)]
  exact stK_exec ρ d x y t p af g w
structure ActV12 where
  k : Int
  s : SnapV
  n : Int
  m : Int
  x : ByteArray
  w : Sl10
  d : List Int
def noAV12 : ActV12 := ⟨0, noSV, 0, 0, ⟨#[]⟩, nilS10, []⟩
def ActV12.arr (a : ActV12) : Array Value := #[.int .i64 a.k, .int .i64 a.s.i, .int .i64 a.s.t, .slice a.s.f.u.p a.s.f.u.n a.s.f.u.c, .slice a.s.f.v.p a.s.f.v.n a.s.f.v.c, .slice a.s.w.p a.s.w.n a.s.w.c, .int .i64 a.n, .int .i64 a.m, .string a.x, .slice a.w.p a.w.n a.w.c]
structure FitsA12 (W : World) (a : ActV12) : Prop where
  k : inI a.k
  s : FitsS W a.s
  n : inI a.n
  m : inI a.m
  x : a.x.size ≤ 140737488355328
  w : Has W (.slice a.w.p a.w.n a.w.c) a.d
  b : IsB a.d
  l : a.d.length ≤ 140737488351232
theorem FitsA12.below {W W' : World} {a : ActV12} (h : FitsA12 W a) (hb : Below W.heap.size W W') : FitsA12 W' a := ⟨h.k, h.s.below hb, h.n, h.m, h.x, h.w.below hb (Nat.le_refl _), h.b, h.l⟩
structure HasA12 (W : World) (s : Sl10) (l : List ActV12) : Prop where
  n : l.length = s.n
  c : s.n ≤ s.c
  nl : s.p = none → s.c = 0
  at' : 0 < s.n → ∃ b o, s.p = some ⟨b, o, none⟩ ∧ b < W.heap.size ∧ ∀ i, i < s.n → ∀ j, j < 10 → W.cell? ⟨b, o + i * 10 + j, none⟩ = (l.getD i noAV12).arr[j]?
  all : ∀ x ∈ l, FitsA12 W x
theorem HasA12.below {W W' : World} {s : Sl10} {l : List ActV12} (h : HasA12 W s l) (hb : Below W.heap.size W W') : HasA12 W' s l :=
  ⟨h.n, h.c, h.nl, fun h0 => by
    obtain ⟨b, o, hp, hlt, hc⟩ := h.at' h0
    exact ⟨b, o, hp, Nat.lt_of_lt_of_le hlt hb.size, fun i hi j hj => (hb.cell (p := ⟨b, o + i * 10 + j, none⟩) hlt).trans (hc i hi j hj)⟩, fun e he => (h.all e he).below hb⟩
theorem HasA12.ld {W : World} {s : Sl10} {l : List ActV12} (h : HasA12 W s l) {j : Nat} (hj : j < s.n) : ∃ b o, s.p = some ⟨b, o, none⟩ ∧ b < W.heap.size ∧ (ldK (.pointer (some ⟨b, o + j * 10, none⟩))).run Tryz.prog W = .ok (.agg (l.getD j noAV12).arr) W := by
  obtain ⟨b, o, hp, hlt, hc⟩ := h.at' (by omega)
  refine ⟨b, o, hp, hlt, ?_⟩
  refine (run_loadAt_mid W b (o + j * 10) 48 (l.getD j noAV12).arr.toList _ (fun i v hi => ?_) Tryz.underlying48 rfl (by show _ = some 10; kernel_rfl)).trans (by rw [Array.toArray_toList])
  have hi10 : i < 10 := (List.getElem?_eq_some_iff.1 hi).1
  rw [hc j hj i hi10, ← Array.getElem?_toList]
  exact hi
theorem getA_mem12 {l : List ActV12} {j : Nat} (hj : j < l.length) : l.getD j noAV12 ∈ l := by
  rw [List.getD_eq_getElem?_getD, List.getElem?_eq_getElem hj]
  exact List.getElem_mem hj
theorem stK_arr {w : World} {b : Nat} (a : ActV12) (h : w.there b 0 10) : (stK (.pointer (some ⟨b, 0, none⟩)) (.agg a.arr)).run Tryz.prog w = .ok () (w.setCells b 0 a.arr.toList) := by
  refine run_storeAt_mid w b 0 48 a.arr h (by show _ = some 10; kernel_rfl) ?_
  have := all_oneCell_toArray (cs := a.arr.toList) (by
    intro v hv
    unfold ActV12.arr at hv
    simp at hv
    rcases hv with rfl | rfl | rfl | rfl | rfl | rfl | rfl | rfl | rfl | rfl <;> rfl)
  rwa [Array.toArray_toList] at this
def ActAt (w : World) (b : Nat) (a : ActV12) : Prop := w.heap[b]? = some (.cells a.arr 48 (0, 0))
theorem setK_box {w : World} {b : Nat} {z : Array Value} {t : TypeId} (a : ActV12) (h : w.heap[b]? = some (.cells z t (0, 0))) (hz : z.size = 10) : (w.setCells b 0 a.arr.toList).heap[b]? = some (.cells a.arr t (0, 0)) := by
  refine setCells_box h 0 a.arr.toList a.arr (by rw [hz]; exact Nat.le_refl _) ?_
  have : z.toList.drop (0 + a.arr.toList.length) = [] := List.drop_of_length_le (by rw [Array.length_toList, hz]; exact Nat.le_refl _)
  rw [this]
  simp
theorem ldS_in12 {w : World} {b : Nat} {a : ActV12} {t : TypeId} {fr : Nat × Nat} (h : w.heap[b]? = some (.cells a.arr t fr)) : (ldS (.pointer (some ⟨b, 1, none⟩))).run Tryz.prog w = .ok (.agg a.s.arr) w := by
  refine (run_loadAt_mid w b 1 27 a.s.arr.toList _ (fun i v hi => ?_) Tryz.underlying27 rfl (by show _ = some 5; kernel_rfl)).trans (by rw [Array.toArray_toList])
  have hi5 : i < 5 := (List.getElem?_eq_some_iff.1 hi).1
  rw [box_cell h (1 + i), ← hi, Array.getElem?_toList]
  obtain ⟨k, s, n, m, x, w', d⟩ := a
  rcases i with _ | _ | _ | _ | _ | i <;> first | rfl | omega
theorem layK12 (w : World) (a : ActV12) : ∃ w', (w.alloc (.cells #[.int .i64 0, .int .i64 0, .int .i64 0, .slice none 0 0, .slice none 0 0, .slice none 0 0, .int .i64 0, .int .i64 0, .string ⟨#[]⟩, .slice none 0 0] 48)).setCells w.heap.size 0 a.arr.toList = w' ∧ Below w.heap.size w w' ∧ ActAt w' w.heap.size a := by
  have hbx := heap_alloc_new w (.cells #[.int .i64 0, .int .i64 0, .int .i64 0, .slice none 0 0, .slice none 0 0, .slice none 0 0, .int .i64 0, .int .i64 0, .string ⟨#[]⟩, .slice none 0 0] 48)
  exact ⟨_, rfl, setCells_below (Nat.le_refl _) _ _ ((Below.refl _ _).alloc (Nat.le_refl _) _), setK_box a hbx rfl⟩
def wt12 (a : ActV12) : Nat := 1 + (a.s.w.n + a.w.n) / 100 + a.s.f.u.n + a.s.f.v.n
def wts12 (l : List ActV12) : Nat := (l.map wt12).sum
theorem wts_snoc12 {l : List ActV12} {j : Nat} (hj : j < l.length) : wts12 (l.take (j + 1)) = wts12 (l.take j) + wt12 (l.getD j noAV12) := by
  unfold wts12
  rw [List.take_add_one, List.getElem?_eq_getElem hj, List.map_append, List.sum_append, List.getD_eq_getElem?_getD, List.getElem?_eq_getElem hj]
  simp
theorem wt_mem12 {l : List ActV12} {a : ActV12} (h : a ∈ l) : wt12 a ≤ wts12 l := by
  unfold wts12
  induction l with
  | nil => cases h
  | cons b l ih =>
    rw [List.map_cons, List.sum_cons]
    rcases List.mem_cons.1 h with rfl | h
    · omega
    · have := ih h
      omega
end Go.Proofs.YthlelcmifolnfaaGreatDoor

namespace Go.Proofs.YthlelcmifolnfaaGreatDoor
open Go.ChangeShapes Go.WideShapes Go.ChangeAt Go.RowKit Go.Deep
section
variable {H : Type} {enc : TypeId × Value → H} {W : World} {spare : Nat → Bool} {held : Bool} {b0 base fuel : Nat}

set_option maxRecDepth 100000 in
theorem act_in12 {cs : List Value} {x : DataW H × List MemPlace} (hlen : cs.length = 10) (h : DataW.trod enc Tryz.prog W base spare held fuel 48 cs = some x) (hw : ∀ q ∈ x.1.weights Tryz.prog 48, q ≤ reachBytes) :
    ∃ A : ActV12, cs = A.arr.toList ∧ FitsA12 W A := by
  obtain ⟨xs, k', hk, hxy, _, hxl, hf⟩ := DataW.trod_struct Tryz.underlying48 h
  match xs, hxl, cs, hlen with
  | [y0, y1, y2, y3, y4, y5], _, [v0, v1, v2, v3, v4, v5, v6, v7, v8, v9], _ =>
    have g0 := hf 0 _ rfl
    have g1 := hf 1 _ rfl
    have g2 := hf 2 _ rfl
    have g3 := hf 3 _ rfl
    have g4 := hf 4 _ rfl
    have g5 := hf 5 _ rfl
    simp [show Tryz.prog.cellsOf 9 = 1 by kernel_rfl, show Tryz.prog.cellsOf 3 = 1 by kernel_rfl, show Tryz.prog.cellsOf 25 = 1 by kernel_rfl, show Tryz.prog.cellsOf 27 = 5 by kernel_rfl] at g0 g1 g2 g3 g4 g5
    simp only [List.map_cons, List.map_nil] at hxy
    have hx1 : x.1 = .agg [y0.1, y1.1, y2.1, y3.1, y4.1, y5.1] := by rw [hxy]
    rw [hx1] at hw
    simp only [DataW.weights, Tryz.underlying48, DataW.weightsEach, List.map_cons, List.map_nil, List.append_nil, List.mem_append] at hw
    obtain ⟨z0, hz0, rfl, w0⟩ := DataW.trod_int Tryz.underlying3 g0
    obtain ⟨z2, hz2, rfl, w2⟩ := DataW.trod_int Tryz.underlying3 g2
    obtain ⟨z3, hz3, rfl, w3⟩ := DataW.trod_int Tryz.underlying3 g3
    obtain ⟨s4, hs4, rfl, _⟩ := DataW.trod_string Tryz.underlying9 g4
    cases hz0; cases hz2; cases hz3; cases hs4
    obtain ⟨sn, hsn, fsn⟩ := snap_in10 rfl g1 fun q hq => hw q (by simp only [hq, true_or, or_true])
    simp only [SnapV.arr, List.cons.injEq, and_true] at hsn
    obtain ⟨rfl, rfl, rfl, rfl, rfl⟩ := hsn
    obtain ⟨a, n, c, rfl⟩ := slice_form10 Tryz.underlying25 g5
    obtain ⟨zs, e, h1, h2, h3⟩ := bytes_in9 g5 fun q hq => hw q (by simp only [hq, or_true])
    have q4 := hw s4.data.toList.length (by simp [DataW.weights])
    unfold reachBytes at q4
    rw [Array.length_toList] at q4
    have q4' : s4.size ≤ 140737488355328 := by
      show s4.data.size ≤ _
      omega
    exact ⟨⟨z0, sn, z2, z3, s4, ⟨a, n, c⟩, zs⟩, rfl, ⟨bounds_i64 w0, fsn, bounds_i64 w2, bounds_i64 w3, q4', h1, h2, by rw [e]; exact h3⟩⟩

set_option maxRecDepth 100000 in
theorem acts_in12 {a : Option Addr} {n c : Nat} {x : DataW H × List MemPlace} (h : DataW.trod enc Tryz.prog W base spare held fuel 46 [.slice a n c] = some x) (hw : ∀ q ∈ x.1.weights Tryz.prog 46, q ≤ reachBytes) :
    ∃ zs : List ActV12, HasA12 W ⟨a, n, c⟩ zs ∧ n ≤ 140737488355328 := by
  rcases open_slice Tryz.underlying46 h with ⟨hcs, _⟩ | ⟨a', len, cap, m, k, D, Pl, hcs, hb, hl, hm, hmm, rfl, hx⟩
  · simp only [List.cons.injEq, Value.slice.injEq, and_true] at hcs
    obtain ⟨rfl, rfl, rfl⟩ := hcs
    exact ⟨[], ⟨rfl, Nat.le_refl _, fun _ => rfl, fun h0 => absurd h0 (Nat.lt_irrefl 0), fun x hx => by cases hx⟩, by omega⟩
  · simp only [List.cons.injEq, Value.slice.injEq, and_true] at hcs
    obtain ⟨rfl, rfl, rfl⟩ := hcs
    have hlm : n ≤ m := by rw [hmm]; split <;> omega
    rw [show Tryz.prog.cellsOf 48 = 10 by kernel_rfl] at hx
    have hs : n ≤ 140737488355328 := by
      have := hw _ (by simp only [DataW.weights, Tryz.underlying46]; exact List.mem_cons_self)
      rw [show Tryz.prog.bytesOf 48 = 152 by kernel_rfl] at this
      simp only [List.length_map, List.length_range, reachBytes] at this
      omega
    have each : ∀ i, i < n → ∃ A : ActV12, (∀ j, j < 10 → W.cell? ((a'.add (i * 10)).add j) = A.arr.toList[j]?) ∧ FitsA12 W A := by
      intro i hi
      obtain ⟨cs', h1, h2⟩ := hx i (by omega)
      obtain ⟨_, hlen, hcell⟩ := World.cells?_some h1
      obtain ⟨A, rfl, hA⟩ := act_in12 hlen h2 fun q hq => hw q (by
        simp only [DataW.weights, Tryz.underlying46, List.mem_cons, List.mem_append]
        exact .inr (.inl (weights_allP (List.mem_map.2 ⟨i, List.mem_range.2 hi, rfl⟩) q hq)))
      exact ⟨A, fun j hj => hcell j hj, hA⟩
    have each' : ∀ i, ∃ A : ActV12, i < n → (∀ j, j < 10 → W.cell? ((a'.add (i * 10)).add j) = A.arr.toList[j]?) ∧ FitsA12 W A := fun i => by
      by_cases hi : i < n
      · obtain ⟨A, hA⟩ := each i hi
        exact ⟨A, fun _ => hA⟩
      · exact ⟨noAV12, fun h => absurd h hi⟩
    obtain ⟨A, hA⟩ := Classical.axiomOfChoice each'
    have hlen : ((List.range n).map A).length = n := by simp
    have hget : ∀ i, i < n → ((List.range n).map A).getD i noAV12 = A i := fun i hi => by simp [List.getD_eq_getElem?_getD, hi]
    refine ⟨(List.range n).map A, ⟨hlen, hl, (fun h => by cases h), fun h0 => ?_, fun x hx => ?_⟩, hs⟩
    · dsimp only at h0 ⊢
      obtain ⟨b, o, s⟩ := a'
      have h00 := (hA 0 h0).1 0 (by omega)
      obtain rfl : s = none := by simpa [Addr.add] using World.cell?_spot h00
      refine ⟨b, o, rfl, World.block_lt_of_cell? W _ h00, fun i hi j hj => ?_⟩
      have h1 := (hA i hi).1 j hj
      rw [hget i hi]
      simp only [Go.WideShapes.add_plain] at h1
      rw [h1, Array.getElem?_toList]
    · obtain ⟨i, hi, rfl⟩ := List.mem_map.1 hx
      exact (hA i (List.mem_range.1 hi)).2
end
end Go.Proofs.YthlelcmifolnfaaGreatDoor

namespace Go.Proofs.YthlelcmifolnfaaGreatDoor
open Go.RowKit Go.Shelf Go.Maps
section
variable {w0 wB w : World} {F : Nat → Prop} {d r c : Nat} {M N : DM}
theorem Duo8.save (h : Duo8 w0 wB w F d r M N) (h0 : Gl11 w0) (hO : M.OkN c) (hc : c + 16778000 < 1099511627776) (x : SnapV) (hF : FitsS w0 x) (hd : x.d.length ≤ 1048576) :
    Calls Tryz.prog 19 #[.pointer (some ⟨d, 0, none⟩), .agg x.arr] w fun e w' => e = .returned (.int .i64 ((save12 M x.s).1 : Nat)) ∧ Duo8 w0 wB w' F d r (save12 M x.s).2 N :=
  h.disk_op fun S hD _ => saveS_any hD h0 hO hc x (hF.below h.bel) (fun k hk hs => by have := hF.inSn_lt hk; have := (hD.own k hs).1; omega) hd
theorem Duo8.rsave (h : Duo8 w0 wB w F d r M N) (hO : N.OkN c) (hc : c + 16778000 < 1099511627776) (x : SnapV) (hF : FitsS w0 x) (hd : x.d.length ≤ 1048576) :
    Calls Tryz.prog 20 #[.pointer (some ⟨r, 0, none⟩), .agg x.arr] w fun e w' => e = .returned (.int .i64 ((save12 N x.s).1 : Nat)) ∧ Duo8 w0 wB w' F d r M (save12 N x.s).2 :=
  h.ref_op fun _ hR hT hT0 => rsave12_any hR hO hc hT x (hF.below h.bel) (fun k hk => hT0 k (hF.inSn_lt hk)) hd
theorem Duo8.append0 (h : Duo8 w0 wB w F d r M N) (hO : M.OkN c) (hc : c < 1099511627776) {x : ByteArray} (hs : x.size ≤ maxLen) {v : Value} {bs : List Int} (hv : Has w0 v bs) (hbl : bs.length ≤ 1099511627776) :
    Calls Tryz.prog 31 #[.pointer (some ⟨d, 0, none⟩), .string x, v] w fun e w' => e = .returned (.int .i64 ((M.append x bs).1 : Nat)) ∧ Duo8 w0 wB w' F d r (M.append x bs).2 N :=
  h.disk_op fun S hD _ => hD.append hO hc hs (hasX_old h.bel (fun k hk hs => by have := (hD.own k hs).1; omega) hv) hbl
theorem Duo8.box12 (h : Duo8 w0 wB w F d r M N) {b : Nat} {o : Obj} (hb : F b) (ho : wB.heap[b]? = some o) : w.heap[b]? = some o := by
  obtain ⟨S, G, h1, h2, h3⟩ := h
  exact (h3 b hb).2.2.2.trans ho
theorem Duo8.lt12 (h : Duo8 w0 wB w F d r M N) {b : Nat} (hb : F b) : b < w.heap.size := by
  obtain ⟨S, G, h1, h2, h3⟩ := h
  exact Nat.lt_of_lt_of_le (h3 b hb).1 h2
end
end Go.Proofs.YthlelcmifolnfaaGreatDoor
