import Derived.Test.YtephoegcpjdglaaLjXTo
import Derived.Test.YtephoegcpjdglaaLxTo
import Derived.Deep.RegionHeld3
namespace Go.Proofs.Ytephoegcpjdglaa
open Go.RowKit Go.Shelf

section
variable {w0 wB w w' : World} {F G H : Nat → Prop} {b r : Nat} {L M : LG}
theorem ka13 {w wA wB : World} {A1 A2 A3 A4 A5 A6 A7 A8 A9 : Prop} (h : A1 ∧ A2 ∧ A3 ∧ A4 ∧ A5 ∧ A6 ∧ A7 ∧ A8 ∧ A9 ∧ Below w.heap.size w wA) (hb : Below wA.heap.size wA wB) : Below w.heap.size w wB := h.2.2.2.2.2.2.2.2.2.trans (hb.mono h.2.2.2.2.2.2.2.2.2.size)
theorem ka13b {w wA : World} {A1 A2 A3 A4 A5 A6 A7 A8 A9 : Prop} (h : A1 ∧ A2 ∧ A3 ∧ A4 ∧ A5 ∧ A6 ∧ A7 ∧ A8 ∧ A9 ∧ Below w.heap.size w wA) : Below w.heap.size w wA := h.2.2.2.2.2.2.2.2.2
set_option maxRecDepth 100000 in
set_option maxHeartbeats 2000000 in
theorem alike13_any (h : Duo13 w0 wB w F b G L r H L) :
    Calls Try.prog 10 #[.pointer (some ⟨b, 0, none⟩), .pointer (some ⟨r, 0, none⟩)] w fun e w' => e = .returned (.bool true) ∧ Duo13 w0 wB w' F b G L r H L := by
  obtain ⟨s, es, g, hl⟩ := h.one.log
  obtain ⟨t, fs, hr⟩ := h.two
  have HLs : Hid (∀ W, Below w.heap.size w W → LogG W b G s es g L) := fun W hW => hl.below hW
  have HRs : Hid (∀ W, Below w.heap.size w W → RfG w0 W r H t fs L) := fun W hW => hr.below hW
  have HD : Hid (∀ W, Below w.heap.size w W → Duo13 w0 wB W F b G L r H L) := fun W hW => h.below hW
  have HSz : Hid (L.unsure.length ≤ 837723144948) := by
    have h1 := slice_len13 (L := L) (f := L.safe + 1) (m := L.l.length)
    have h2 : L.l.length ≤ 837723144948 := by rw [hr.len]; exact hr.sz
    show (L.slice (L.safe + 1) L.l.length).length ≤ _
    omega
  have kb := base13_any hl
  clear h hl hr
  go_enter Try.func10, Try.ntmps10
  go_wp2_with fail
  refine kb.mono ?_
  rintro _ w1 ⟨rfl, hb1⟩
  have HB1 : Hid (Below w.heap.size w w1) := hb1
  have k1 := lastT13_any (HLs.out w1 hb1)
  clear kb hb1
  go_wp2_with fail
  refine k1.mono ?_
  rintro _ w2 ⟨rfl, hb2⟩
  have HB2 : Hid (Below w.heap.size w w2) := HB1.out.trans (hb2.mono HB1.out.size)
  have k2 := rlast13_any (HRs.out w2 HB2.out)
  clear k1 hb2 HB1
  go_wp2_with fail
  refine k2.mono ?_
  rintro _ w3 ⟨rfl, hb3⟩
  have HB3 : Hid (Below w.heap.size w w3) := HB2.out.trans (hb3.mono HB2.out.size)
  have k3 := pconf13_any (HLs.out w3 HB3.out)
  clear k2 hb3 HB2
  go_wp2_with fail
  refine k3.mono ?_
  rintro _ w4 ⟨y, rfl, hyf, hyF, hb4⟩
  have HB4 : Hid (Below w.heap.size w w4) := HB3.out.trans (hb4.mono HB3.out.size)
  have hbx := heap_alloc_new w4 (.cells y.arr 49)
  have hbb : Below w4.heap.size w4 (w4.alloc (.cells y.arr 49)) := (Below.refl _ _).alloc (Nat.le_refl _) _
  have HB5 : Hid (Below w.heap.size w (w4.alloc (.cells y.arr 49))) := HB4.out.trans (hbb.mono HB4.out.size)
  have HX5 : Hid _ := hbx
  have HF5 : Hid (FitsF (w4.alloc (.cells y.arr 49)) y) := hyF.below hbb
  have HYf : Hid _ := hyf
  have k4 := rconf13_any (HRs.out _ HB5.out)
  clear k3 hb4 HB3 HB4 hbx hbb hyf hyF
  obtain ⟨⟨p1, n1, c1⟩, ⟨q1, m1, d1⟩, f1⟩ := y
  unfold ConfV.arr at k4 HB5 HX5 HF5
  dsimp only at k4 HB5 HX5 HF5 HYf
  unfold ConfV.arr
  dsimp only
  go_wp2_with fail
  generalize w4.alloc (.cells #[.slice p1 n1 c1, .slice q1 m1 d1] 49) = w5 at *
  generalize w4.heap.size = e1 at *
  refine k4.mono ?_
  rintro _ w6 ⟨v, z, rfl, hv, hzf, hzF, hb6⟩
  subst hv
  have HB6 : Hid (Below w.heap.size w w6) := HB5.out.trans (hb6.mono HB5.out.size)
  have HX6 : Hid _ := box_below HX5.out hb6
  have HF6 : Hid _ := HF5.out.below hb6
  have hbx := heap_alloc_new w6 (.cells z.arr 49)
  have hbb : Below w6.heap.size w6 (w6.alloc (.cells z.arr 49)) := (Below.refl _ _).alloc (Nat.le_refl _) _
  have HB7 : Hid (Below w.heap.size w (w6.alloc (.cells z.arr 49))) := HB6.out.trans (hbb.mono HB6.out.size)
  have HX7 : Hid _ := box_below HX6.out hbb
  have HY7 : Hid _ := hbx
  have HF7 : Hid _ := HF6.out.below hbb
  have HZ7 : Hid (FitsF (w6.alloc (.cells z.arr 49)) z) := hzF.below ((HRs.out w6 HB6.out).bel.trans (hbb.mono (HRs.out w6 HB6.out).bel.size))
  have HZf : Hid _ := hzf
  clear k4 hb6 HB5 HB6 HX5 HX6 HF5 HF6 hbx hbb hzf hzF
  obtain ⟨⟨p2, n2, c2⟩, ⟨q2, m2, d2⟩, f2⟩ := z
  unfold ConfV.arr at HB7 HX7 HF7 HY7 HZ7
  dsimp only at HB7 HX7 HF7 HY7 HZ7 HZf
  unfold ConfV.arr
  dsimp only
  go_upto_region 6 with fail
  generalize w6.alloc (.cells #[.slice p2 n2 c2, .slice q2 m2 d2] 49) = W at *
  generalize w6.heap.size = e2 at *
  have hsame : sameF10 f1 f2 = true := by
    have h1 : f1 = (conf13 L.l).1 := HYf.out
    have h2 : f2 = (conf13 L.l).1 := HZf.out
    rw [h1, h2]
    exact (sameF10_iff _ _).2 rfl
  have hBW : ∀ Y, Below W.heap.size W Y → Below w.heap.size w Y := fun Y hY => HB7.out.trans (hY.mono HB7.out.size)
  have HKd : Hid (∀ Y, Below W.heap.size W Y → Calls Try.prog 11 #[.pointer (some ⟨b, 0, none⟩)] Y fun e w' => e = .returned (.int .i64 L.done) ∧ w' = Y) := fun Y hY => done13_any (HLs.out Y (hBW Y hY))
  have HKu : Hid (∀ Y, Below W.heap.size W Y → Calls Try.prog 16 #[.pointer (some ⟨b, 0, none⟩)] Y fun e w' => e = .returned (.int .i64 L.used) ∧ w' = Y) := fun Y hY => used13_any (HLs.out Y (hBW Y hY))
  have HKs : Hid (∀ Y, Below W.heap.size W Y → Calls Try.prog 22 #[.pointer (some ⟨b, 0, none⟩)] Y fun e w' => e = .returned (.int .i64 L.safe) ∧ w' = Y) := fun Y hY => safe13_any (HLs.out Y (hBW Y hY))
  have HK1 : Hid (∀ Y, Below W.heap.size W Y → Calls Try.prog 23 #[.pointer (some ⟨b, 0, none⟩)] Y fun e w' => ∃ (s' : Sl10) (ys : List EntV), e = .returned (.slice s'.p s'.n s'.c) ∧ OwnsEs w' Y.heap.size s' ys ∧ ys.map EntV.e = L.unsure ∧ Below Y.heap.size Y w') := fun Y hY => unsure13_any (HLs.out Y (hBW Y hY))
  have HK2 : Hid (∀ Y, Below W.heap.size W Y → Calls Try.prog 49 #[.pointer (some ⟨r, 0, none⟩)] Y fun e w' => ∃ (s' : Sl10) (ys : List EntV), e = .returned (.slice s'.p s'.n s'.c) ∧ HasE w' s' ys ∧ ys.map EntV.e = L.unsure ∧ Below Y.heap.size Y w') := fun Y hY => by
    have hR := HRs.out Y (hBW Y hY)
    refine (runsure13_any hR).mono ?_
    rintro e w' ⟨s', ys, he, hg, hb⟩
    exact ⟨s', ys, he, hg.has hR.all (hR.bel.trans (hb.mono hR.bel.size)), hg.map, hb⟩
  have HKc : Hid (∀ Y, Below W.heap.size W Y → Calls Try.prog 50 #[.agg #[.slice p1 n1 c1, .slice q1 m1 d1], .agg #[.slice p2 n2 c2, .slice q2 m2 d2]] Y fun e w' => e = .returned (.bool true) ∧ Below Y.heap.size Y w') := fun Y hY => by
    have := rsameConf_any ⟨⟨p1, n1, c1⟩, ⟨q1, m1, d1⟩, f1⟩ ⟨⟨p2, n2, c2⟩, ⟨q2, m2, d2⟩, f2⟩ Y (HF7.out.below hY) (HZ7.out.below hY)
    rw [hsame] at this
    exact this
  have KS : ∀ Y, Below W.heap.size W Y → Y.cell? ⟨r, 0, none⟩ = some (.int .i64 L.ix) ∧ Y.cell? ⟨r, 1, none⟩ = some (.int .i64 L.t0) ∧ Y.cell? ⟨r, 3, none⟩ = some (.int .i64 L.done) ∧ Y.cell? ⟨r, 4, none⟩ = some (.int .i64 L.used) ∧ Y.cell? ⟨r, 5, none⟩ = some (.int .i64 L.safe) ∧ Y.cell? ⟨e1, 0, none⟩ = some (.slice p1 n1 c1) ∧ Y.cell? ⟨e1, 1, none⟩ = some (.slice q1 m1 d1) ∧ Y.cell? ⟨e2, 0, none⟩ = some (.slice p2 n2 c2) ∧ Y.cell? ⟨e2, 1, none⟩ = some (.slice q2 m2 d2) ∧ Below W.heap.size W Y := fun Y hY => by
    obtain ⟨x0, x1, -, x3, x4, x5⟩ := (HRs.out Y (hBW Y hY)).cells
    exact ⟨x0, x1, x3, x4, x5, box_cell (box_below HX7.out hY) 0, box_cell (box_below HX7.out hY) 1, box_cell (box_below HY7.out hY) 0, box_cell (box_below HY7.out hY) 1, hY⟩
  have HKS : Hid _ := KS
  have HBW : Hid _ := hBW
  have s0 := KS _ (below_drew13 W)
  clear KS hBW hsame
  simp only [List.append_eq, List.cons_append, List.nil_append]
  go_region_held3 (fun Y => Y.cell? ⟨r, 0, none⟩ = some (.int .i64 L.ix) ∧ Y.cell? ⟨r, 1, none⟩ = some (.int .i64 L.t0) ∧ Y.cell? ⟨r, 3, none⟩ = some (.int .i64 L.done) ∧ Y.cell? ⟨r, 4, none⟩ = some (.int .i64 L.used) ∧ Y.cell? ⟨r, 5, none⟩ = some (.int .i64 L.safe) ∧ Y.cell? ⟨e1, 0, none⟩ = some (.slice p1 n1 c1) ∧ Y.cell? ⟨e1, 1, none⟩ = some (.slice q1 m1 d1) ∧ Y.cell? ⟨e2, 0, none⟩ = some (.slice p2 n2 c2) ∧ Y.cell? ⟨e2, 1, none⟩ = some (.slice q2 m2 d2) ∧ Below W.heap.size W Y)
    (first | exact s0 | assumption | exact HKS.out _ (ka13 (by assumption) (by assumption)))
    (first
      | (go_at_call 11; (with_reducible refine Calls.mono (HKd.out _ (ka13b (by assumption))) ?_); rintro _ wa ⟨rfl, rfl⟩)
      | (go_at_call 16; (with_reducible refine Calls.mono (HKu.out _ (ka13b (by assumption))) ?_); rintro _ wa ⟨rfl, rfl⟩)
      | (go_at_call 22; (with_reducible refine Calls.mono (HKs.out _ (ka13b (by assumption))) ?_); rintro _ wa ⟨rfl, rfl⟩)
      | (go_at_call 23; (with_reducible refine Calls.mono (HK1.out _ (ka13b (by assumption))) ?_); rintro _ wu ⟨s1, ys, rfl, ho, hm1, hbu⟩; have HO : Hid _ := ho; have HM1 : Hid _ := hm1; clear ho hm1)
      | (go_at_call 49; (with_reducible refine Calls.mono (HK2.out _ (ka13b (by assumption))) ?_); rintro _ wv ⟨s2, zs, rfl, hz, hm2, hbv⟩; have HO2 : Hid (HasE wv s1 ys) := HO.out.fits.below hbv; have HZ : Hid _ := hz; have HM2 : Hid _ := hm2; clear hz hm2)
      | (go_at_call 33; (refine Calls.mono (like_eq s1.p s2.p s1.n s1.c s2.n s2.c ys zs _ HO2.out HZ.out (HM1.out.trans HM2.out.symm) (by have h1 := HO2.out.n; have h2 := congrArg List.length HM1.out; rw [List.length_map] at h2; have h3 := HSz.out; omega)) ?_); rintro _ wl ⟨rfl, hbl⟩)
      | (go_at_call 50; (refine Calls.mono (HKc.out _ (ka13b (by assumption))) ?_); rintro _ wc ⟨rfl, hbc⟩))
  have HB9 : Hid (Below W.heap.size W wc) := ka13b (by assumption)
  have HDe : Hid (Duo13 w0 wB wc F b G L r H L) := HD.out _ (HBW.out _ HB9.out)
  clear s0
  go_wp2
  go_ret
  exact ⟨by simp, HDe.out⟩
end
end Go.Proofs.Ytephoegcpjdglaa
