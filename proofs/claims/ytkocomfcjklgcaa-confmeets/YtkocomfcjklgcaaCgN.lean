import Derived.Test.YtkocomfcjklgcaaCgL
import Derived.Test.YtkocomfcjklgcaaHRowMTo
namespace Go.Proofs.Ytkocomfcjklgcaa
open Go.RowKit Go.Shelf

set_option maxRecDepth 100000 in
set_option maxHeartbeats 4000000 in
theorem confMeets_of (x : ConfV) (k n : Int) (s t : Sl10) (bl al : List Int) (w : World) (h : FitsF w x) (hbI : HasI w (.slice s.p s.n s.c) bl) (haI : HasI w (.slice t.p t.n t.c) al) (lb : s.n ≤ 17592186044416) (la : t.n ≤ 17592186044416) :
    Calls Try.prog 4 #[.agg x.arr, .agg #[.int .i64 k, .int .i64 n, .slice s.p s.n s.c], .slice t.p t.n t.c] w fun e w' => e = .returned (.bool true) ∧ Below w.heap.size w w' := by
  have hb1 : Below w.heap.size w (w.alloc (.cells x.arr 24)) := (Below.refl _ _).alloc (Nat.le_refl _) _
  have hx1 : ConfAt (w.alloc (.cells x.arr 24)) w.heap.size x := heap_alloc_new w _
  have hz1 : (w.alloc (.cells x.arr 24)).heap.size = w.heap.size + 1 := by simp
  have hb2 := (Below.refl _ (w.alloc (.cells x.arr 24))).alloc (Nat.le_refl _) (.cells #[.int .i64 k, .int .i64 n, .slice s.p s.n s.c] 38)
  have hy2 : ((w.alloc (.cells x.arr 24)).alloc (.cells #[.int .i64 k, .int .i64 n, .slice s.p s.n s.c] 38)).heap[w.heap.size + 1]? = some (.cells #[.int .i64 k, .int .i64 n, .slice s.p s.n s.c] 38 (0, 0)) := by rw [← hz1]; exact heap_alloc_new _ _
  have hx2 : ConfAt _ w.heap.size x := box_below hx1 hb2
  have hB := hb1.trans (hb2.mono hb1.size)
  have lu := h.u.len.1
  have lv := h.v.len.1
  obtain ⟨s, sn, sc⟩ := s
  obtain ⟨t, tn, tc⟩ := t
  dsimp only at *
  have kf := few15_any x ((w.alloc (.cells x.arr 24)).alloc (.cells #[.int .i64 k, .int .i64 n, .slice s sn sc] 38)) (by have := h.lu; omega) (by have := h.lv; omega)
  have hbl := hbI.len.1
  have hal := haI.len.1
  have hcs : ¬ (x.u.n + x.v.n ≤ 200) ∨ ((x.u.n + x.v.n ≤ 200) ∧ (100 : Int) < (tn : Int)) ∨ ((x.u.n + x.v.n ≤ 200) ∧ ¬ (100 : Int) < (tn : Int) ∧ (100 : Int) < (sn : Int)) ∨ ((x.u.n + x.v.n ≤ 200) ∧ ¬ (100 : Int) < (tn : Int) ∧ ¬ (100 : Int) < (sn : Int)) := by omega
  clear hb1 hb2 hx1 hz1
  by_cases hbad : ¬ (x.u.n + x.v.n ≤ 200) ∨ ((x.u.n + x.v.n ≤ 200) ∧ (100 : Int) < (tn : Int)) ∨ ((x.u.n + x.v.n ≤ 200) ∧ ¬ (100 : Int) < (tn : Int) ∧ (100 : Int) < (sn : Int))
  case pos =>
    clear h hbI haI hcs hbl hal lu lv
    rcases hbad with h1 | ⟨h1, h2⟩ | ⟨h1, h2, h3⟩
    case' inl => rw [decide_eq_false h1] at kf
    case' inr.inl => rw [decide_eq_true h1] at kf
    case' inr.inr => rw [decide_eq_true h1] at kf
    all_goals
      clear h1
      obtain ⟨⟨p, u, c⟩, ⟨q, v, d⟩, f⟩ := x
      unfold ConfV.arr at *
      dsimp only at *
      go_enter Try.func4, Try.ntmps4
      go_wp2_with fail
      refine kf.mono ?_
      rintro e w1 ⟨rfl, hb2⟩
      have hB2 := hB.trans (hb2.mono hB.size)
      have hy3 := box_below hy2 hb2
      have c0 := box_cell hy3 2
      have hlt := box_lt hy3
      go_wp2_with fail
      refine (lives15 _).mono ?_
      rintro e w2 ⟨rfl, hb3⟩
      go_wp2
      go_ret
      exact ⟨rfl, hB2.trans (hb3.mono hB2.size)⟩
  obtain ⟨h1, h2, h3⟩ := (hcs.resolve_left fun h => hbad (.inl h)).resolve_left (fun h => hbad (.inr (.inl h))) |>.resolve_left (fun h => hbad (.inr (.inr h)))
  rw [decide_eq_true h1] at kf
  clear hcs hbad h1
  have kc := fun W (hb : Below w.heap.size w W) => change_any x k n W (h.below hb)
  have hE := change_err15 x.f k n
  by_cases h0 : (change15 x.f k n).2 = 0
  case neg =>
    have h1 := hE.resolve_left h0
    have h2' : (change15 x.f k n).1 = noF10 := by rw [h1]
    rw [h2'] at kc
    have h3' : ((((change15 x.f k n).2 : Nat) : Int) == 0) = false := beq_eq_false_iff_ne.2 (by omega)
    have h4 : (((change15 x.f k n).2 : Nat) : Int) ≠ 0 := by omega
    clear h0 h1 h2' hE h lu lv hbI haI hbl hal
    generalize (change15 x.f k n).2 = E at *
    obtain ⟨⟨p, u, c⟩, ⟨q, v, d⟩, f⟩ := x
    unfold ConfV.arr at *
    dsimp only at *
    go_enter Try.func4, Try.ntmps4
    go_wp2_with fail
    refine kf.mono ?_
    rintro e w1 ⟨rfl, hb2⟩
    have hB2 := hB.trans (hb2.mono hB.size)
    have hy3 := box_below hy2 hb2
    have hx3 : w1.heap[w.heap.size]? = some (.cells #[.slice p u c, .slice q v d] 24 (0, 0)) := box_below hx2 hb2
    have i0 := box_cell hy3 0
    have i1 := box_cell hy3 1
    have i2 := box_cell hy3 2
    have i3 := box_cell hx3 0
    have i4 := box_cell hx3 1
    have hlt := box_lt hy3
    clear hb2 kf hB hx2 hy2
    go_wp2_with fail
    refine (kc _ hB2).mono ?_
    rintro e w2 ⟨⟨⟨p2, u2, c2⟩, ⟨q2, v2, d2⟩, f2⟩, rfl, hf2, hO2, hb3⟩
    dsimp only
    have hB3 := hB2.trans (hb3.mono hB2.size)
    have hB4 := hB3.alloc hB3.size (.cells #[.slice p2 u2 c2, .slice q2 v2 d2] 24)
    clear kc hO2 hb3 i0 i1 i2 i3 i4 hB2 hx3 hy3
    go_wp2_with fail
    refine (lives15 _).mono ?_
    rintro e w4 ⟨rfl, hb5⟩
    go_wp2
    go_ret
    exact ⟨rfl, hB4.trans (hb5.mono hB4.size)⟩
  obtain ⟨dd, hdd⟩ : ∃ dd, change15 x.f k n = (dd, 0) := ⟨_, by rw [← h0]⟩
  rw [hdd] at kc
  obtain ⟨hG, hn, hS⟩ := change_good15 hdd
  have hGd := hS.good hG hn
  have hmeet : Hid (maj15 x.f.vs (hasI10 al) = true → maj15 dd.vs (hasI10 bl) = true → ∃ z, z ∈ al ∧ z ∈ x.f.vs ∧ z ∈ dd.vs ∧ z ∈ bl) := fun h1 h2 => change_meets15 hdd h1 h2
  have k1 := fun W (hb : Below w.heap.size w W) => most_any15 hG (h.below hb) (haI.below hb (Nat.le_refl _)) (by omega) rfl
  have HD : Hid (Good15 dd) := hGd
  have HU : Hid (HasI w (.slice x.u.p x.u.n x.u.c) x.f.vs ∧ x.f.vs.length ≤ 9) := ⟨h.u, hG.vs.len⟩
  have HB : Hid (HasI w (.slice s sn sc) bl ∧ bl.length ≤ 100) := ⟨hbI, by omega⟩
  have HA : Hid (HasI w (.slice t tn tc) al) := haI
  generalize hm1 : maj15 x.f.vs (hasI10 al) = m1 at *
  generalize hm2 : maj15 dd.vs (hasI10 bl) = m2 at *
  replace hm2 : Hid (maj15 dd.vs (hasI10 bl) = m2) := hm2
  clear hm1 h0 hE hS hn hdd hG hGd h hbI haI lu lv hbl
  obtain ⟨⟨p, u, c⟩, ⟨q, v, d⟩, f⟩ := x
  unfold ConfV.arr at *
  dsimp only at *
  go_enter Try.func4, Try.ntmps4
  go_wp2_with fail
  refine kf.mono ?_
  rintro e w1 ⟨rfl, hb2⟩
  have hB2 := hB.trans (hb2.mono hB.size)
  have hy3 := box_below hy2 hb2
  have hx3 : w1.heap[w.heap.size]? = some (.cells #[.slice p u c, .slice q v d] 24 (0, 0)) := box_below hx2 hb2
  have i0 := box_cell hy3 0
  have i1 := box_cell hy3 1
  have i2 := box_cell hy3 2
  have i3 := box_cell hx3 0
  have i4 := box_cell hx3 1
  have hlt := box_lt hy3
  clear hb2 kf hB hx2 hy2
  go_wp2_with fail
  refine (kc _ hB2).mono ?_
  rintro e w2 ⟨⟨⟨p2, u2, c2⟩, ⟨q2, v2, d2⟩, f2⟩, rfl, hf2, hO2, hb3⟩
  dsimp only at hf2
  subst hf2
  dsimp only
  obtain ⟨hz3, hb4⟩ := box15_new w2 p2 u2 c2 q2 v2 d2 f2
  have hB3 := hB2.trans (hb3.mono hB2.size)
  have hB4 := hB3.trans (hb4.mono hB3.size)
  have hx4 : (w2.alloc (.cells #[.slice p2 u2 c2, .slice q2 v2 d2] 24)).heap[w.heap.size]? = some (.cells #[.slice p u c, .slice q v d] 24 (0, 0)) := box_below (box_below hx3 hb3) hb4
  have hy4 : (w2.alloc (.cells #[.slice p2 u2 c2, .slice q2 v2 d2] 24)).heap[w.heap.size + 1]? = some (.cells #[.int .i64 k, .int .i64 n, .slice s sn sc] 38 (0, 0)) := box_below (box_below hy3 hb3) hb4
  have hF4 := (hO2.below hb4).fits
  have k2 := fun W (hb : Below (w2.alloc (.cells #[.slice p2 u2 c2, .slice q2 v2 d2] 24)).heap.size (w2.alloc (.cells #[.slice p2 u2 c2, .slice q2 v2 d2] 24)) W) => most_any15 (x := ⟨⟨p2, u2, c2⟩, ⟨q2, v2, d2⟩, f2⟩) HD.out (hF4.below hb) (HB.out.1.below (hB4.trans (hb.mono hB4.size)) (Nat.le_refl _)) (by have := HB.out.2; omega) hm2.out
  have HF : Hid (HasI (w2.alloc (.cells #[.slice p2 u2 c2, .slice q2 v2 d2] 24)) (.slice p2 u2 c2) f2.vs) := hF4.u
  dsimp only [ConfV.arr] at k2
  clear kc hO2 hb3 i0 i1 i2 i3 i4 hB2 hx3 hy3 hB3 hb4 hF4
  go_upto_region 4 with fail
  generalize w2.alloc (.cells #[.slice p2 u2 c2, .slice q2 v2 d2] 24) = W3 at *
  generalize w2.heap.size = g at *
  have i0 := box_cell hy4 2
  have i1 := box_cell hx4 0
  have i2 := box_cell hx4 1
  have hlt4 := box_lt hx4
  cases m1 with
  | false =>
    go_wp2_with fail
    refine (k1 _ hB4).mono ?_
    rintro e w4 ⟨rfl, hb5⟩
    have hB5 := hB4.trans (hb5.mono hB4.size)
    clear i0 i1 i2
    go_wp2_with fail
    refine (lives15 _).mono ?_
    rintro e w5 ⟨rfl, hb6⟩
    go_wp2
    go_ret
    exact ⟨rfl, hB5.trans (hb6.mono hB5.size)⟩
  | true =>
  go_wp2_with fail
  refine (k1 _ hB4).mono ?_
  rintro e w4 ⟨rfl, hb5⟩
  have hB5 := hB4.trans (hb5.mono hB4.size)
  have hx5 : w4.heap[w.heap.size]? = some (.cells #[.slice p u c, .slice q v d] 24 (0, 0)) := box_below hx4 hb5
  have hy5 : w4.heap[w.heap.size + 1]? = some (.cells #[.int .i64 k, .int .i64 n, .slice s sn sc] 38 (0, 0)) := box_below hy4 hb5
  have hz5 : w4.heap[g]? = some (.cells #[.slice p2 u2 c2, .slice q2 v2 d2] 24 (0, 0)) := box_below hz3 hb5
  clear i0 i1 i2 k1 hx4 hy4 hz3 hlt4
  have i0 := box_cell hy5 2
  have i1 := box_cell hz5 0
  have i2 := box_cell hz5 1
  have hltz := box_lt hz5
  have hlty := box_lt hy5
  cases m2 with
  | false =>
    go_wp2_with fail
    refine (k2 _ hb5).mono ?_
    rintro e w5 ⟨rfl, hb6⟩
    have hB6 := hB5.trans (hb6.mono hB5.size)
    clear i0 i1 i2
    go_wp2_with fail
    refine (lives15 _).mono ?_
    rintro e w6 ⟨rfl, hb7⟩
    go_wp2
    go_ret
    exact ⟨rfl, hB6.trans (hb7.mono hB6.size)⟩
  | true =>
  go_wp2_with fail
  refine (k2 _ hb5).mono ?_
  rintro e w5 ⟨rfl, hb6⟩
  have hb7 := hb5.trans (hb6.mono hb5.size)
  have hB6 := hB5.trans (hb6.mono hB5.size)
  have hx6 : w5.heap[w.heap.size]? = some (.cells #[.slice p u c, .slice q v d] 24 (0, 0)) := box_below hx5 hb6
  have hy6 : w5.heap[w.heap.size + 1]? = some (.cells #[.int .i64 k, .int .i64 n, .slice s sn sc] 38 (0, 0)) := box_below hy5 hb6
  have hz6 : w5.heap[g]? = some (.cells #[.slice p2 u2 c2, .slice q2 v2 d2] 24 (0, 0)) := box_below hz5 hb6
  clear i0 i1 i2 k2 hx5 hy5 hz5 hb5 hb6 hltz hlty
  have hh1 := fun y j => has15_any _ _ y (w5.drewN j) (HU.out.1.below (below_drew14 hB6) (Nat.le_refl _)) (by have := HU.out.2; omega)
  have hh2 := fun y j => has15_any _ _ y (w5.drewN j) (HF.out.below (below_drew14 hb7) (Nat.le_refl _)) (by have := HD.out.vs.len; omega)
  have hh3 := fun y j => has15_any _ _ y (w5.drewN j) (HB.out.1.below (below_drew14 hB6) (Nat.le_refl _)) (by have := HB.out.2; omega)
  have hc := fun j (hj : j < tn) => (HA.out.below hB6 (Nat.le_refl _)).at hj
  have i0 := fun m => show (w5.drewN m).cell? ⟨w.heap.size, 0, none⟩ = _ from box_cell hx6 0
  have i1 := fun m => show (w5.drewN m).cell? ⟨g, 0, none⟩ = _ from box_cell hz6 0
  have i2 := fun m => show (w5.drewN m).cell? ⟨w.heap.size + 1, 2, none⟩ = _ from box_cell hy6 2
  have l1 := box_lt hx6
  have l2 := box_lt hz6
  have l3 := box_lt hy6
  obtain ⟨z, hz1, hz2, hz3, hz4⟩ := hmeet.out (by trivial) (by trivial)
  obtain ⟨jz, hjz, hjz2⟩ := List.mem_iff_getElem.1 hz1
  have hend : Hid (∃ j, j < tn ∧ hasI10 f.vs (al.getD j 0) = true ∧ hasI10 f2.vs (al.getD j 0) = true ∧ hasI10 bl (al.getD j 0) = true) := by
    refine ⟨jz, by omega, ?_⟩
    rw [List.getD_eq_getElem?_getD, List.getElem?_eq_getElem hjz, Option.getD_some, hjz2]
    exact ⟨hasI_iff15.2 hz2, hasI_iff15.2 hz3, hasI_iff15.2 hz4⟩
  clear hx6 hy6 hz6 hz1 hz2 hz3 hz4 hjz hjz2 hmeet HU HF HB HA HD hB4 hB5 hb7 hm2
  go_wp2
  go_loopw [53] (fun st wr => ∃ j m : Nat, j ≤ tn ∧ st = .int .i64 j ∧ Hid (∀ i, i < j → ¬ (hasI10 f.vs (al.getD i 0) = true ∧ hasI10 f2.vs (al.getD i 0) = true ∧ hasI10 bl (al.getD i 0) = true)) ∧ wr = w5.drewN m) (fun st _ => tn - (intOf st).toNat)
  case atStart => exact ⟨0, 0, by omega, rfl, fun i hi => by omega, rfl⟩
  case round =>
    obtain ⟨j, m, hj, rfl, hs, rfl⟩ := hrel
    by_cases hlt2 : j < tn
    · obtain ⟨b2, o, rfl, hbl, hcj⟩ := hc j hlt2
      have hj1 : (j : Int) < (tn : Int) := by omega
      have i0 := i0 m
      have i1 := i1 m
      have i2 := i2 m
      have hh1 := hh1 (al.getD j 0) m
      have hh2 := hh2 (al.getD j 0) m
      have hh3 := hh3 (al.getD j 0) m
      have hs2 : ¬ (hasI10 f.vs (al.getD j 0) = true ∧ hasI10 f2.vs (al.getD j 0) = true ∧ hasI10 bl (al.getD j 0) = true) → Hid (∀ i, i < j + 1 → ¬ (hasI10 f.vs (al.getD i 0) = true ∧ hasI10 f2.vs (al.getD i 0) = true ∧ hasI10 bl (al.getD i 0) = true)) := fun hn i hi => by
        by_cases e : i = j
        · rw [e]; exact hn
        · exact hs.out i (by omega)
      clear hs hend hc
      cases hr1 : hasI10 f.vs (al.getD j 0) with
      | false =>
        rw [hr1] at hh1
        replace hs2 := hs2 (fun h => by rw [hr1] at h; exact absurd h.1 (by decide))
        clear hh2 hh3 hr1
        generalize al.getD j 0 = y at *
        go_wp2_with fail
        refine same_mono hh1 ?_
        go_wp2
        go_roundw
        case rel => exact ⟨j + 1, m, by omega, by go_num, hs2, rfl⟩
        case measure => simp only [intOf]; omega

      | true =>
        rw [hr1] at hh1
        cases hr2 : hasI10 f2.vs (al.getD j 0) with
        | false =>
          rw [hr2] at hh2
          replace hs2 := hs2 (fun h => by rw [hr2] at h; exact absurd h.2.1 (by decide))
          clear hh3 hr1 hr2
          generalize al.getD j 0 = y at *
          go_wp2_with fail
          refine same_mono hh1 ?_
          go_wp2_with fail
          refine same_mono hh2 ?_
          go_wp2
          go_roundw
          case rel => exact ⟨j + 1, m, by omega, by go_num, hs2, rfl⟩
          case measure => simp only [intOf]; omega

        | true =>
          rw [hr2] at hh2
          cases hr3 : hasI10 bl (al.getD j 0) with
          | false =>
            rw [hr3] at hh3
            replace hs2 := hs2 (fun h => by rw [hr3] at h; exact absurd h.2.2 (by decide))
            clear hr1 hr2 hr3
            generalize al.getD j 0 = y at *
            go_wp2_with fail
            refine same_mono hh1 ?_
            go_wp2_with fail
            refine same_mono hh2 ?_
            go_wp2_with fail
            refine same_mono hh3 ?_
            go_wp2
            go_roundw
            case rel => exact ⟨j + 1, m, by omega, by go_num, hs2, rfl⟩
            case measure => simp only [intOf]; omega

          | true =>
            rw [hr3] at hh3
            clear hr1 hr2 hr3 hs2
            generalize al.getD j 0 = y at *
            go_wp2_with fail
            refine same_mono hh1 ?_
            go_wp2_with fail
            refine same_mono hh2 ?_
            go_wp2_with fail
            refine same_mono hh3 ?_
            go_wp2_with fail
            refine (lives15 _).mono ?_
            rintro e w6 ⟨rfl, hb7⟩
            have hB7 := (below_drew14 (k := m) hB6).trans (hb7.mono hB6.size)
            go_wp2
            go_ret
            exact ⟨rfl, hB7⟩
    · obtain ⟨j2, hj2, hg⟩ := hend.out
      exact absurd hg (hs.out j2 (by omega))
theorem confMeets_row (x : ConfV) (y : StepV15) (t : Value) (al : List Int) (w : World) (h : FitsF w x) (hy : FitsT15 w y) (haI : HasI w t al) (la : al.length ≤ 17592186044416) :
    Calls Try.prog 4 #[.agg x.arr, .agg y.arr, t] w fun e w' => e = .returned (.bool true) ∧ Below w.heap.size w w' := by
  obtain ⟨p, c, rfl, -⟩ := haI.parts14
  exact confMeets_of x y.k y.n y.s ⟨p, al.length, c⟩ y.b al w h hy.b haI hy.l la
end Go.Proofs.Ytkocomfcjklgcaa
