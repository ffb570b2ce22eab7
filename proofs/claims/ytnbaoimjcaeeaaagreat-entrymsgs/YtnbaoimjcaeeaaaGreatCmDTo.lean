import Derived.Test.YtnbaoimjcaeeaaaGreatCmCTo
import Derived.Deep.QuietTactic
/-
  Contracts: entry.alike, SameConf, Good, Same; corbelref01.Ints; corbelref10.SameConf.
-/
namespace Go.Proofs.YtnbaoimjcaeeaaaGreat
open Go.RowKit Go.Shelf

theorem Has.at10 {w : World} {p : Option Addr} {n c : Nat} {xs : List Int} (h : Has w (.slice p n c) xs) {j : Nat} (hj : j < n) : ∃ b o, p = some ⟨b, o, none⟩ ∧ b < w.heap.size ∧ w.cell? ⟨b, o + j, none⟩ = some (.int .u8 (xs.getD j 0)) := by
  obtain ⟨q, d, hv, _, _, hc⟩ := h
  simp only [Value.slice.injEq] at hv
  obtain ⟨rfl, rfl, rfl⟩ := hv
  obtain ⟨b, o, hp, hlt, hcl⟩ := hc (by omega)
  exact ⟨b, o, hp, hlt, hcl j hj⟩
theorem Has.len {w : World} {p : Option Addr} {n c : Nat} {xs : List Int} (h : Has w (.slice p n c) xs) : xs.length = n ∧ n ≤ c ∧ (p = none → c = 0) := by
  obtain ⟨q, d, hv, h1, h2, _⟩ := h
  simp only [Value.slice.injEq] at hv
  obtain ⟨rfl, rfl, rfl⟩ := hv
  exact ⟨rfl, h1, h2⟩

set_option maxRecDepth 100000 in
set_option maxHeartbeats 1500000 in
theorem alikeI_any (p q : Option Addr) (n c m d : Nat) (xs ys : List Int) (w : World) (hx : HasI w (.slice p n c) xs) (hy : HasI w (.slice q m d) ys) (lx : xs.length ≤ 140737488351232) (_ly : ys.length ≤ 140737488351232) :
    Calls Tryz.prog 96 #[.slice p n c, .slice q m d] w fun e w' => e = .returned (.bool (decide (xs = ys))) ∧ w' = w := by
  have n1 := hx.len.1
  have n2 := hy.len.1
  by_cases hnm : n = m
  · have HN : Hid (xs.length = n) := n1
    have HM : Hid (ys.length = n) := by rw [Hid, n2, hnm]
    have HX : Hid (HasI w (.slice p n c) xs) := hx
    have HY : Hid (HasI w (.slice q n d) ys) := by rw [Hid, hnm]; exact hy
    rw [n1] at lx
    rw [← hnm]
    clear hx hy n1 n2 hnm
    go_enter Tryz.func96, Tryz.ntmps96
    go_wp2
    go_loopw [14] (fun s14 wr => ∃ j : Nat, j ≤ n ∧ s14 = .int .i64 (j : Nat) ∧ wr = w ∧ Hid (∀ i, i < j → xs.getD i 0 = ys.getD i 0)) (fun s14 _ => n - (intOf s14).toNat)
    case atStart => exact ⟨0, Nat.zero_le _, rfl, rfl, fun i hi => by omega⟩
    case round =>
      obtain ⟨j, hj, rfl, rfl, hok⟩ := hrel
      by_cases hlt : j < n
      · obtain ⟨b1, o1, rfl, hb1, hc1⟩ := HX.out.at hlt
        obtain ⟨b2, o2, rfl, hb2, hc2⟩ := HY.out.at hlt
        by_cases he : xs.getD j 0 = ys.getD j 0
        · have HS : Hid (∀ i, i < j + 1 → xs.getD i 0 = ys.getD i 0) := fun i hi => by
            by_cases e : i = j
            · rw [e]; exact he
            · exact hok.out i (by omega)
          have he' : (xs.getD j 0 != ys.getD j 0) = false := by simpa using he
          clear hok he
          generalize xs.getD j 0 = a at *
          generalize ys.getD j 0 = b at *
          go_wp2
          go_roundw
          case rel => exact ⟨j + 1, by omega, by go_num, by trivial, HS.out⟩
          case measure => simp only [intOf]; omega
        · have hd0 : Hid (decide (xs = ys) = false) := decide_eq_false fun e => he (by rw [e])
          have he' : (xs.getD j 0 != ys.getD j 0) = true := by simpa using he
          clear hok he
          generalize xs.getD j 0 = a at *
          generalize ys.getD j 0 = b at *
          go_wp2
          go_ret
          rw [hd0.out]
          exact ⟨rfl, rfl⟩
      · have hd0 : Hid (decide (xs = ys) = true) := decide_eq_true (List.ext_getElem (by rw [HN.out, HM.out]) fun i h1 h2 => by
          have := hok.out i (by rw [HN.out] at h1; omega)
          simpa [List.getD_eq_getElem?_getD, List.getElem?_eq_getElem h1, List.getElem?_eq_getElem h2] using this)
        go_wp2
        go_ret
        rw [hd0.out]
        exact ⟨rfl, rfl⟩
  · have hd0 : Hid (decide (xs = ys) = false) := decide_eq_false fun e => hnm (by rw [← n1, ← n2, e])
    have hne : ((n : Int) != (m : Int)) = true := by simp; omega
    clear hx hy n1 n2
    go_enter Tryz.func96, Tryz.ntmps96
    go_wp2
    go_ret
    rw [hd0.out]
    exact ⟨rfl, rfl⟩

set_option maxRecDepth 100000 in
set_option maxHeartbeats 1500000 in
theorem alikeB_any (p q : Option Addr) (n c m d : Nat) (xs ys : List Int) (w : World) (hx : Has w (.slice p n c) xs) (hy : Has w (.slice q m d) ys) (lx : xs.length ≤ 140737488351232) (_ly : ys.length ≤ 140737488351232) :
    Calls Tryz.prog 118 #[.slice p n c, .slice q m d] w fun e w' => e = .returned (.bool (decide (xs = ys))) ∧ w' = w := by
  have n1 := hx.len.1
  have n2 := hy.len.1
  by_cases hnm : n = m
  · have HN : Hid (xs.length = n) := n1
    have HM : Hid (ys.length = n) := by rw [Hid, n2, hnm]
    have HX : Hid (Has w (.slice p n c) xs) := hx
    have HY : Hid (Has w (.slice q n d) ys) := by rw [Hid, hnm]; exact hy
    rw [n1] at lx
    rw [← hnm]
    clear hx hy n1 n2 hnm
    go_enter Tryz.func118, Tryz.ntmps118
    go_wp2
    go_loopw [14] (fun s14 wr => ∃ j : Nat, j ≤ n ∧ s14 = .int .i64 (j : Nat) ∧ wr = w ∧ Hid (∀ i, i < j → xs.getD i 0 = ys.getD i 0)) (fun s14 _ => n - (intOf s14).toNat)
    case atStart => exact ⟨0, Nat.zero_le _, rfl, rfl, fun i hi => by omega⟩
    case round =>
      obtain ⟨j, hj, rfl, rfl, hok⟩ := hrel
      by_cases hlt : j < n
      · obtain ⟨b1, o1, rfl, hb1, hc1⟩ := HX.out.at10 hlt
        obtain ⟨b2, o2, rfl, hb2, hc2⟩ := HY.out.at10 hlt
        by_cases he : xs.getD j 0 = ys.getD j 0
        · have HS : Hid (∀ i, i < j + 1 → xs.getD i 0 = ys.getD i 0) := fun i hi => by
            by_cases e : i = j
            · rw [e]; exact he
            · exact hok.out i (by omega)
          have he' : (xs.getD j 0 != ys.getD j 0) = false := by simpa using he
          clear hok he
          generalize xs.getD j 0 = a at *
          generalize ys.getD j 0 = b at *
          go_wp2
          go_roundw
          case rel => exact ⟨j + 1, by omega, by go_num, by trivial, HS.out⟩
          case measure => simp only [intOf]; omega
        · have hd0 : Hid (decide (xs = ys) = false) := decide_eq_false fun e => he (by rw [e])
          have he' : (xs.getD j 0 != ys.getD j 0) = true := by simpa using he
          clear hok he
          generalize xs.getD j 0 = a at *
          generalize ys.getD j 0 = b at *
          go_wp2
          go_ret
          rw [hd0.out]
          exact ⟨rfl, rfl⟩
      · have hd0 : Hid (decide (xs = ys) = true) := decide_eq_true (List.ext_getElem (by rw [HN.out, HM.out]) fun i h1 h2 => by
          have := hok.out i (by rw [HN.out] at h1; omega)
          simpa [List.getD_eq_getElem?_getD, List.getElem?_eq_getElem h1, List.getElem?_eq_getElem h2] using this)
        go_wp2
        go_ret
        rw [hd0.out]
        exact ⟨rfl, rfl⟩
  · have hd0 : Hid (decide (xs = ys) = false) := decide_eq_false fun e => hnm (by rw [← n1, ← n2, e])
    have hne : ((n : Int) != (m : Int)) = true := by simp; omega
    clear hx hy n1 n2
    go_enter Tryz.func118, Tryz.ntmps118
    go_wp2
    go_ret
    rw [hd0.out]
    exact ⟨rfl, rfl⟩

set_option maxRecDepth 10000 in
set_option maxHeartbeats 2000000 in
theorem ints10_any (u v : Value) (xs ys : List Int) (w : World) (hx : HasI w u xs) (hy : HasI w v ys) (lx : xs.length ≤ 17592186044416) (ly : ys.length ≤ 17592186044416) :
    Calls Tryz.prog 79 #[u, v] w fun e w' => e = .returned (.bool (decide (xs = ys))) ∧ Below w.heap.size w w' := by
  obtain ⟨p, c, rfl, hc, _, hcx⟩ := hx
  obtain ⟨q, d, rfl, hd, _, hcy⟩ := hy
  by_cases hl : xs.length = ys.length
  · rcases Nat.eq_zero_or_pos xs.length with h0 | h0
    · obtain rfl : xs = [] := List.eq_nil_of_length_eq_zero h0
      obtain rfl : ys = [] := List.eq_nil_of_length_eq_zero (by simpa using hl.symm)
      go_enter Tryz.func79, Tryz.ntmps79
      go_wp2
      go_loop [13] (fun t => t = .int .i64 0) (fun _ => 0)
      case atStart => rfl
      case round =>
        obtain rfl := hrel
        go_wp2
        go_ret
        exact ⟨rfl, Below.refl _ _⟩
    · obtain ⟨b, o, rfl, hbl, hcx⟩ := hcx h0
      obtain ⟨b', o', rfl, hbl', hcy⟩ := hcy (by omega)
      have hl' : ((xs.length : Int) == (ys.length : Int)) = true := by rw [hl]; simp
      go_enter Tryz.func79, Tryz.ntmps79
      go_wp2
      go_loopw [13] (fun t wr => ∃ j : Nat, j ≤ xs.length ∧ t = .int .i64 j ∧ Hid (∀ i, i < j → xs.getD i 0 = ys.getD i 0) ∧ Below w.heap.size w wr) (fun t _ => xs.length - (intOf t).toNat)
      case atStart => exact ⟨0, by omega, rfl, fun i hi => by omega, Below.refl _ _⟩
      case round =>
        obtain ⟨j, hj, rfl, hs, hb⟩ := hrel
        by_cases hlt : j < xs.length
        · have c1 : wr.cell? ⟨b, o + j, none⟩ = some (.int .i64 (xs.getD j 0)) := (hb.cell (p := ⟨b, o + j, none⟩) hbl).trans (hcx j hlt)
          have c2 : wr.cell? ⟨b', o' + j, none⟩ = some (.int .i64 (ys.getD j 0)) := (hb.cell (p := ⟨b', o' + j, none⟩) hbl').trans (hcy j (by omega))
          have hj1 : (j : Int) < (xs.length : Int) := by omega
          have hj2 : (j : Int) < (ys.length : Int) := by omega
          by_cases he : xs.getD j 0 = ys.getD j 0
          · have he' : (xs.getD j 0 == ys.getD j 0) = true := beq_iff_eq.2 he
            have hs' : Hid (∀ i, i < j + 1 → xs.getD i 0 = ys.getD i 0) := fun i hi => by
              by_cases e : i = j
              · rw [e]; exact he
              · exact hs.out i (by omega)
            clear hs he hcx hcy
            generalize xs.getD j 0 = x at *
            generalize ys.getD j 0 = y at *
            go_wp2
            go_quiet (fail)
            go_wp2
            go_roundw
            case rel => exact ⟨j + 1, by omega, by simp, hs', below_drewN hb _⟩
            case measure => simp only [intOf]; omega
          · have he' : (xs.getD j 0 == ys.getD j 0) = false := beq_eq_false_iff_ne.2 he
            have hd0 : Hid (decide (xs = ys) = false) := decide_eq_false fun e => he (by rw [e])
            clear hs he hcx hcy
            generalize xs.getD j 0 = x at *
            generalize ys.getD j 0 = y at *
            go_wp2
            go_quiet (fail)
            go_wp2
            go_ret
            exact ⟨by rw [hd0.out]; rfl, below_drewN hb _⟩
        · obtain rfl : j = xs.length := by omega
          have he : Hid (decide (xs = ys) = true) := decide_eq_true (List.ext_getElem hl fun i h1 h2 => by
            have := hs.out i h1
            simpa [List.getD_eq_getElem?_getD, List.getElem?_eq_getElem h1, List.getElem?_eq_getElem h2] using this)
          clear hs hcx hcy
          go_wp2
          go_ret
          exact ⟨by rw [he.out]; rfl, hb⟩
  · have hne : xs ≠ ys := fun e => hl (by rw [e])
    have hd0 : decide (xs = ys) = false := decide_eq_false hne
    have hl' : ((xs.length : Int) == (ys.length : Int)) = false := by
      rw [beq_eq_false_iff_ne]; omega
    clear hcx hcy
    rw [hd0]
    go_enter Tryz.func79, Tryz.ntmps79
    go_wp2
    go_ret
    exact ⟨rfl, Below.refl _ _⟩

set_option maxRecDepth 100000 in
set_option maxHeartbeats 1500000 in
theorem sameConf_any (x y : ConfV) (w : World) (hx : FitsF w x) (hy : FitsF w y) : Calls Tryz.prog 63 #[.agg x.arr, .agg y.arr] w fun e w' => e = .returned (.bool (sameF10 x.f y.f)) ∧ Below w.heap.size w w' := by
  have hb1 : Below w.heap.size w (w.alloc (.cells x.arr 28)) := (Below.refl _ _).alloc (Nat.le_refl _) _
  have hbx : ConfAt (w.alloc (.cells x.arr 28)) w.heap.size x := heap_alloc_new w _
  have hz1 : (w.alloc (.cells x.arr 28)).heap.size = w.heap.size + 1 := by simp
  have hb2 := (Below.refl _ (w.alloc (.cells x.arr 28))).alloc (Nat.le_refl _) (.cells y.arr 28)
  have hby : ConfAt ((w.alloc (.cells x.arr 28)).alloc (.cells y.arr 28)) (w.heap.size + 1) y := by rw [← hz1]; exact heap_alloc_new _ _
  have hbx2 : ConfAt _ w.heap.size x := box_below hbx hb2
  have hB := hb1.trans (hb2.mono hb1.size)
  have k := fun W (h : Below w.heap.size w W) => alikeI_any x.u.p y.u.p x.u.n x.u.c y.u.n y.u.c x.f.vs y.f.vs W (hx.u.below h (Nat.le_refl _)) (hy.u.below h (Nat.le_refl _)) (by have := hx.lu; omega) (by have := hy.lu; omega)
  have l := fun W (h : Below w.heap.size w W) => alikeI_any x.v.p y.v.p x.v.n x.v.c y.v.n y.v.c x.f.ls y.f.ls W (hx.v.below h (Nat.le_refl _)) (hy.v.below h (Nat.le_refl _)) (by have := hx.lv; omega) (by have := hy.lv; omega)
  have HS : Hid (sameF10 x.f y.f = (decide (x.f.vs = y.f.vs) && decide (x.f.ls = y.f.ls))) := rfl
  generalize decide (x.f.vs = y.f.vs) = r1 at *
  generalize decide (x.f.ls = y.f.ls) = r2 at *
  have k1 := k _ hB
  have L : Hid _ := l
  generalize sameF10 x.f y.f = r at *
  obtain ⟨⟨p, n, c⟩, ⟨q, m, d⟩, f⟩ := x
  obtain ⟨⟨p', n', c'⟩, ⟨q', m', d'⟩, f'⟩ := y
  unfold ConfV.arr at *
  dsimp only at *
  clear hx hy k l hb1 hb2 hbx
  cases r1 with
  | false =>
    go_enter Tryz.func63, Tryz.ntmps63
    go_wp2_with fail
    refine same_mono k1 ?_
    
    go_wp2
    go_ret
    rw [HS.out]
    exact ⟨rfl, hB⟩
  | true =>
    go_enter Tryz.func63, Tryz.ntmps63
    go_wp2_with fail
    refine same_mono k1 ?_
    have k2 := L.out _ hB
    clear k1 hbx2 hby
    go_wp2_with fail
    refine same_mono k2 ?_
    go_wp2
    go_ret
    rw [HS.out]
    exact ⟨by simp, hB⟩

set_option maxRecDepth 100000 in
set_option maxHeartbeats 1500000 in
theorem rsameConf_any (x y : ConfV) (w : World) (hx : FitsF w x) (hy : FitsF w y) : Calls Tryz.prog 42 #[.agg x.arr, .agg y.arr] w fun e w' => e = .returned (.bool (sameF10 x.f y.f)) ∧ Below w.heap.size w w' := by
  have hb1 : Below w.heap.size w (w.alloc (.cells x.arr 28)) := (Below.refl _ _).alloc (Nat.le_refl _) _
  have hbx : ConfAt (w.alloc (.cells x.arr 28)) w.heap.size x := heap_alloc_new w _
  have hz1 : (w.alloc (.cells x.arr 28)).heap.size = w.heap.size + 1 := by simp
  have hb2 := (Below.refl _ (w.alloc (.cells x.arr 28))).alloc (Nat.le_refl _) (.cells y.arr 28)
  have hby : ConfAt ((w.alloc (.cells x.arr 28)).alloc (.cells y.arr 28)) (w.heap.size + 1) y := by rw [← hz1]; exact heap_alloc_new _ _
  have hbx2 : ConfAt _ w.heap.size x := box_below hbx hb2
  have hB := hb1.trans (hb2.mono hb1.size)
  have k := fun W (h : Below w.heap.size w W) => ints10_any (.slice x.u.p x.u.n x.u.c) (.slice y.u.p y.u.n y.u.c) x.f.vs y.f.vs W (hx.u.below h (Nat.le_refl _)) (hy.u.below h (Nat.le_refl _)) (by have := hx.lu; omega) (by have := hy.lu; omega)
  have l := fun W (h : Below w.heap.size w W) => ints10_any (.slice x.v.p x.v.n x.v.c) (.slice y.v.p y.v.n y.v.c) x.f.ls y.f.ls W (hx.v.below h (Nat.le_refl _)) (hy.v.below h (Nat.le_refl _)) (by have := hx.lv; omega) (by have := hy.lv; omega)
  have HS : Hid (sameF10 x.f y.f = (decide (x.f.vs = y.f.vs) && decide (x.f.ls = y.f.ls))) := rfl
  generalize decide (x.f.vs = y.f.vs) = r1 at *
  generalize decide (x.f.ls = y.f.ls) = r2 at *
  have k1 := k _ hB
  have L : Hid _ := l
  generalize sameF10 x.f y.f = r at *
  obtain ⟨⟨p, n, c⟩, ⟨q, m, d⟩, f⟩ := x
  obtain ⟨⟨p', n', c'⟩, ⟨q', m', d'⟩, f'⟩ := y
  unfold ConfV.arr at *
  dsimp only at *
  clear hx hy k l hb1 hb2 hbx
  cases r1 with
  | false =>
    go_enter Tryz.func42, Tryz.ntmps42
    go_wp2_with fail
    refine k1.mono ?_
    rintro e w1 ⟨rfl, hb3⟩
    go_wp2
    go_ret
    rw [HS.out]
    exact ⟨rfl, hB.trans (hb3.mono hB.size)⟩
  | true =>
    go_enter Tryz.func42, Tryz.ntmps42
    go_wp2_with fail
    refine k1.mono ?_
    rintro e w1 ⟨rfl, hb3⟩
    have hB3 := hB.trans (hb3.mono hB.size)
    have k2 := L.out w1 hB3
    have e1 : ConfAt w1 w.heap.size ⟨⟨p, n, c⟩, ⟨q, m, d⟩, f⟩ := box_below hbx2 hb3
    have e2 : ConfAt w1 (w.heap.size + 1) ⟨⟨p', n', c'⟩, ⟨q', m', d'⟩, f'⟩ := box_below hby hb3
    obtain ⟨c0, c1⟩ := e1.cells
    obtain ⟨d0, d1⟩ := e2.cells
    dsimp only at c0 c1 d0 d1
    have hl1 := box_lt e1
    have hl2 := box_lt e2
    clear k1 hb3 hbx2 hby
    go_wp2_with fail
    refine k2.mono ?_
    rintro e w2 ⟨rfl, hb4⟩
    go_wp2
    go_ret
    rw [HS.out]
    exact ⟨by simp, hB3.trans (hb4.mono hB3.size)⟩

theorem keepE {w1 wA wB : World} {b : Nat} {xb3 xb4 xb5 xb6 xb7 xb8 xb9 xb10 xb11 xb12 : Value} (hlb : b < w1.heap.size) (h : wA.cell? ⟨b, 3, none⟩ = some xb3 ∧ wA.cell? ⟨b, 4, none⟩ = some xb4 ∧ wA.cell? ⟨b, 5, none⟩ = some xb5 ∧ wA.cell? ⟨b, 6, none⟩ = some xb6 ∧ wA.cell? ⟨b, 7, none⟩ = some xb7 ∧ wA.cell? ⟨b, 8, none⟩ = some xb8 ∧ wA.cell? ⟨b, 9, none⟩ = some xb9 ∧ wA.cell? ⟨b, 10, none⟩ = some xb10 ∧ wA.cell? ⟨b, 11, none⟩ = some xb11 ∧ wA.cell? ⟨b, 12, none⟩ = some xb12 ∧ Below w1.heap.size w1 wA) (hb : Below wA.heap.size wA wB) :
    wB.cell? ⟨b, 3, none⟩ = some xb3 ∧ wB.cell? ⟨b, 4, none⟩ = some xb4 ∧ wB.cell? ⟨b, 5, none⟩ = some xb5 ∧ wB.cell? ⟨b, 6, none⟩ = some xb6 ∧ wB.cell? ⟨b, 7, none⟩ = some xb7 ∧ wB.cell? ⟨b, 8, none⟩ = some xb8 ∧ wB.cell? ⟨b, 9, none⟩ = some xb9 ∧ wB.cell? ⟨b, 10, none⟩ = some xb10 ∧ wB.cell? ⟨b, 11, none⟩ = some xb11 ∧ wB.cell? ⟨b, 12, none⟩ = some xb12 ∧ Below w1.heap.size w1 wB := by
  obtain ⟨h0, h1, h2, h3, h4, h5, h6, h7, h8, h9, hz⟩ := h
  have hs := hz.size
  exact ⟨(hb.cell (p := ⟨b, 3, none⟩) (by exact Nat.lt_of_lt_of_le hlb hs)).trans h0, (hb.cell (p := ⟨b, 4, none⟩) (by exact Nat.lt_of_lt_of_le hlb hs)).trans h1, (hb.cell (p := ⟨b, 5, none⟩) (by exact Nat.lt_of_lt_of_le hlb hs)).trans h2, (hb.cell (p := ⟨b, 6, none⟩) (by exact Nat.lt_of_lt_of_le hlb hs)).trans h3, (hb.cell (p := ⟨b, 7, none⟩) (by exact Nat.lt_of_lt_of_le hlb hs)).trans h4, (hb.cell (p := ⟨b, 8, none⟩) (by exact Nat.lt_of_lt_of_le hlb hs)).trans h5, (hb.cell (p := ⟨b, 9, none⟩) (by exact Nat.lt_of_lt_of_le hlb hs)).trans h6, (hb.cell (p := ⟨b, 10, none⟩) (by exact Nat.lt_of_lt_of_le hlb hs)).trans h7, (hb.cell (p := ⟨b, 11, none⟩) (by exact Nat.lt_of_lt_of_le hlb hs)).trans h8, (hb.cell (p := ⟨b, 12, none⟩) (by exact Nat.lt_of_lt_of_le hlb hs)).trans h9, hz.trans (hb.mono hs)⟩
theorem keepE0 {w1 : World} {b : Nat} {xb3 xb4 xb5 xb6 xb7 xb8 xb9 xb10 xb11 xb12 : Value} (h0 : w1.cell? ⟨b, 3, none⟩ = some xb3) (h1 : w1.cell? ⟨b, 4, none⟩ = some xb4) (h2 : w1.cell? ⟨b, 5, none⟩ = some xb5) (h3 : w1.cell? ⟨b, 6, none⟩ = some xb6) (h4 : w1.cell? ⟨b, 7, none⟩ = some xb7) (h5 : w1.cell? ⟨b, 8, none⟩ = some xb8) (h6 : w1.cell? ⟨b, 9, none⟩ = some xb9) (h7 : w1.cell? ⟨b, 10, none⟩ = some xb10) (h8 : w1.cell? ⟨b, 11, none⟩ = some xb11) (h9 : w1.cell? ⟨b, 12, none⟩ = some xb12) : w1.drew.cell? ⟨b, 3, none⟩ = some xb3 ∧ w1.drew.cell? ⟨b, 4, none⟩ = some xb4 ∧ w1.drew.cell? ⟨b, 5, none⟩ = some xb5 ∧ w1.drew.cell? ⟨b, 6, none⟩ = some xb6 ∧ w1.drew.cell? ⟨b, 7, none⟩ = some xb7 ∧ w1.drew.cell? ⟨b, 8, none⟩ = some xb8 ∧ w1.drew.cell? ⟨b, 9, none⟩ = some xb9 ∧ w1.drew.cell? ⟨b, 10, none⟩ = some xb10 ∧ w1.drew.cell? ⟨b, 11, none⟩ = some xb11 ∧ w1.drew.cell? ⟨b, 12, none⟩ = some xb12 ∧ Below w1.heap.size w1 w1.drew :=
  ⟨h0, h1, h2, h3, h4, h5, h6, h7, h8, h9, ⟨rfl, rfl, rfl, Nat.le_refl _, fun _ _ => rfl⟩⟩
theorem keepEB {w1 wA : World} {b : Nat} {xb3 xb4 xb5 xb6 xb7 xb8 xb9 xb10 xb11 xb12 : Value} (h : wA.cell? ⟨b, 3, none⟩ = some xb3 ∧ wA.cell? ⟨b, 4, none⟩ = some xb4 ∧ wA.cell? ⟨b, 5, none⟩ = some xb5 ∧ wA.cell? ⟨b, 6, none⟩ = some xb6 ∧ wA.cell? ⟨b, 7, none⟩ = some xb7 ∧ wA.cell? ⟨b, 8, none⟩ = some xb8 ∧ wA.cell? ⟨b, 9, none⟩ = some xb9 ∧ wA.cell? ⟨b, 10, none⟩ = some xb10 ∧ wA.cell? ⟨b, 11, none⟩ = some xb11 ∧ wA.cell? ⟨b, 12, none⟩ = some xb12 ∧ Below w1.heap.size w1 wA) : Below w1.heap.size w1 wA := h.2.2.2.2.2.2.2.2.2.2

theorem sameF_nil (f : Conf10) : sameF10 f noF10 = emptyF10 f := by
  obtain ⟨v, l⟩ := f
  cases v <;> cases l <;> rfl

set_option maxRecDepth 100000 in
set_option maxHeartbeats 2000000 in
theorem goodE_any (x : EntV) (w : World) (hF : FitsE w x) : Calls Tryz.prog 23 #[.agg x.arr] w fun e w' => e = .returned (.bool (goodE10 x.e)) ∧ Below w.heap.size w w' := by
  have hb1 : Below w.heap.size w (w.alloc (.cells x.arr 30)) := (Below.refl _ _).alloc (Nat.le_refl _) _
  have hbox : EntAt (w.alloc (.cells x.arr 30)) w.heap.size x := heap_alloc_new w _
  have HG : Hid (goodE10 x.e = (decide (1 ≤ x.i) && decide (1 ≤ x.t) && (if x.k = 1 then emptyF10 x.f.f && same9 x.c zeroC9 else if x.k = 2 then emptyF10 x.f.f && good9 x.c else if x.k = 3 then goodF10 x.f.f && same9 x.c zeroC9 else false))) := rfl
  have ks := fun W (h : Below (w.alloc (.cells x.arr 30)).heap.size (w.alloc (.cells x.arr 30)) W) => sameConf_any x.f noFV W ((hF.f.below hb1).below h) (FitsF.nil W)
  have kc := fun W => good_any x.c W
  have kf := fun W (h : Below (w.alloc (.cells x.arr 30)).heap.size (w.alloc (.cells x.arr 30)) W) => goodConf_any x.f W ((hF.f.below hb1).below h)
  rw [show noFV.f = noF10 from rfl, sameF_nil] at ks
  have he := fun W => eqlC x.c.k x.c.s x.c.q x.c.key x.c.old x.c.val x.c.unt x.c.lim 0 0 0 em9 em9 em9 em9 0 W
  have hg := grdC
  have HZ : Hid (same9 x.c zeroC9 = same9 ⟨x.c.k, x.c.s, x.c.q, x.c.key, x.c.old, x.c.val, x.c.unt, x.c.lim⟩ ⟨0, 0, 0, em9, em9, em9, em9, 0⟩) := rfl
  rw [HZ.out] at HG
  clear HZ
  generalize same9 ⟨x.c.k, x.c.s, x.c.q, x.c.key, x.c.old, x.c.val, x.c.unt, x.c.lim⟩ ⟨0, 0, 0, em9, em9, em9, em9, 0⟩ = rz at *
  generalize emptyF10 x.f.f = re at *
  generalize good9 x.c = rc at *
  generalize goodF10 x.f.f = rf at *
  generalize hr : goodE10 x.e = r at *
  clear hr hF
  obtain ⟨i, t, k, ⟨ck, cs, cq, ckey, cold, cval, cunt, clim⟩, ⟨⟨p, n, c⟩, ⟨q, m, d⟩, f⟩⟩ := x
  unfold EntV.arr at *
  unfold ConfV.arr Cmd9.arr noFV nilS10 at *
  dsimp only at *
  by_cases hi : i < 1
  · have HF : Hid (r = false) := by rw [Hid, HG.out, decide_eq_false (by omega)]; rfl
    clear HG ks kc kf he hg
    go_enter Tryz.func23, Tryz.ntmps23
    go_wp2
    go_ret
    rw [HF.out]
    exact ⟨rfl, hb1⟩
  by_cases ht : t < 1
  · have HF : Hid (r = false) := by rw [Hid, HG.out, decide_eq_false (p := 1 ≤ t) (by omega), Bool.and_false]; rfl
    clear HG ks kc kf he hg
    go_enter Tryz.func23, Tryz.ntmps23
    go_wp2
    go_ret
    rw [HF.out]
    exact ⟨rfl, hb1⟩
  have HF : Hid (r = (if k = 1 then re && rz else if k = 2 then re && rc else if k = 3 then rf && rz else false)) := by
    rw [Hid, HG.out, decide_eq_true (p := 1 ≤ i) (by omega), decide_eq_true (p := 1 ≤ t) (by omega)]
    rfl
  clear HG
  by_cases h1 : k = 1
  · have HF1 : Hid (r = (re && rz)) := by rw [Hid, HF.out, if_pos h1]
    clear HF kc kf
    subst h1
    go_enter Tryz.func23, Tryz.ntmps23
    go_wp2_with fail
    have hbz := hb1.size
    generalize w.alloc (.cells #[.int .i64 i, .int .i64 t, .int .i64 1, .int .i64 ck, .int .i64 cs, .int .i64 cq, .string ckey, .string cold, .string cval, .string cunt, .int .i64 clim, .slice p n c, .slice q m d] 30) = W1 at *
    generalize hbb : w.heap.size = b at *
    have Hbb : Hid (w.heap.size = b) := hbb
    clear hbb
    obtain ⟨c0, c1, c2, c3, c4, c5, c6, c7, c8, c9, c10, c11, c12⟩ := hbox.cells
    dsimp only at c0 c1 c2 c3 c4 c5 c6 c7 c8 c9 c10 c11 c12
    have hlt := box_lt hbox
    have s0 := keepE0 c3 c4 c5 c6 c7 c8 c9 c10 c11 c12
    go_region_held3 (fun w' => w'.cell? ⟨b, 3, none⟩ = some (.int .i64 ck) ∧ w'.cell? ⟨b, 4, none⟩ = some (.int .i64 cs) ∧ w'.cell? ⟨b, 5, none⟩ = some (.int .i64 cq) ∧ w'.cell? ⟨b, 6, none⟩ = some (.string ckey) ∧ w'.cell? ⟨b, 7, none⟩ = some (.string cold) ∧ w'.cell? ⟨b, 8, none⟩ = some (.string cval) ∧ w'.cell? ⟨b, 9, none⟩ = some (.string cunt) ∧ w'.cell? ⟨b, 10, none⟩ = some (.int .i64 clim) ∧ w'.cell? ⟨b, 11, none⟩ = some (.slice p n c) ∧ w'.cell? ⟨b, 12, none⟩ = some (.slice q m d) ∧ Below W1.heap.size W1 w')
      (first | exact s0 | assumption | exact keepE hlt (by assumption) (by assumption))
      (first
        | (go_at_call 63; refine Calls.mono (ks _ (keepEB (by assumption))) ?_; rintro e w2 ⟨rfl, hb2⟩))
    have hW : Below W1.heap.size W1 w2 := keepEB (by assumption)
    have hbox2 : EntAt w2 b ⟨i, t, 1, ⟨ck, cs, cq, ckey, cold, cval, cunt, clim⟩, ⟨⟨p, n, c⟩, ⟨q, m, d⟩, f⟩⟩ := box_below hbox hW
    clear c0 c1 c2 c3 c4 c5 c6 c7 c8 c9 c10 c11 c12 hbox
    obtain ⟨c0, c1, c2, c3, c4, c5, c6, c7, c8, c9, c10, c11, c12⟩ := hbox2.cells
    dsimp only at c0 c1 c2 c3 c4 c5 c6 c7 c8 c9 c10 c11 c12
    have hlt2 := box_lt hbox2
    have hb8 := hb1.trans (hW.mono hbz)
    
    all_goals cases rz <;> cases re
    all_goals
      go_wp2
      go_ret
      rw [HF1.out]
      exact ⟨rfl, by rw [Hbb.out]; exact hb8⟩
  have e1 : (k == 1) = false := by simpa using h1
  by_cases h2 : k = 2
  · have HF1 : Hid (r = (re && rc)) := by rw [Hid, HF.out, if_neg h1, if_pos h2]
    clear HF kf h1 e1
    subst h2
    go_enter Tryz.func23, Tryz.ntmps23
    go_wp2_with fail
    have hbz := hb1.size
    generalize w.alloc (.cells #[.int .i64 i, .int .i64 t, .int .i64 2, .int .i64 ck, .int .i64 cs, .int .i64 cq, .string ckey, .string cold, .string cval, .string cunt, .int .i64 clim, .slice p n c, .slice q m d] 30) = W1 at *
    generalize hbb : w.heap.size = b at *
    have Hbb : Hid (w.heap.size = b) := hbb
    clear hbb
    obtain ⟨c0, c1, c2, c3, c4, c5, c6, c7, c8, c9, c10, c11, c12⟩ := hbox.cells
    dsimp only at c0 c1 c2 c3 c4 c5 c6 c7 c8 c9 c10 c11 c12
    have hlt := box_lt hbox
    have s0 := keepE0 c3 c4 c5 c6 c7 c8 c9 c10 c11 c12
    go_region_held3 (fun w' => w'.cell? ⟨b, 3, none⟩ = some (.int .i64 ck) ∧ w'.cell? ⟨b, 4, none⟩ = some (.int .i64 cs) ∧ w'.cell? ⟨b, 5, none⟩ = some (.int .i64 cq) ∧ w'.cell? ⟨b, 6, none⟩ = some (.string ckey) ∧ w'.cell? ⟨b, 7, none⟩ = some (.string cold) ∧ w'.cell? ⟨b, 8, none⟩ = some (.string cval) ∧ w'.cell? ⟨b, 9, none⟩ = some (.string cunt) ∧ w'.cell? ⟨b, 10, none⟩ = some (.int .i64 clim) ∧ w'.cell? ⟨b, 11, none⟩ = some (.slice p n c) ∧ w'.cell? ⟨b, 12, none⟩ = some (.slice q m d) ∧ Below W1.heap.size W1 w')
      (first | exact s0 | assumption | exact keepE hlt (by assumption) (by assumption))
      (first
        | (go_at_call 63; refine Calls.mono (ks _ (keepEB (by assumption))) ?_; rintro e w2 ⟨rfl, hb2⟩))
    have hW : Below W1.heap.size W1 w2 := keepEB (by assumption)
    have hbox2 : EntAt w2 b ⟨i, t, 2, ⟨ck, cs, cq, ckey, cold, cval, cunt, clim⟩, ⟨⟨p, n, c⟩, ⟨q, m, d⟩, f⟩⟩ := box_below hbox hW
    clear c0 c1 c2 c3 c4 c5 c6 c7 c8 c9 c10 c11 c12 hbox
    obtain ⟨c0, c1, c2, c3, c4, c5, c6, c7, c8, c9, c10, c11, c12⟩ := hbox2.cells
    dsimp only at c0 c1 c2 c3 c4 c5 c6 c7 c8 c9 c10 c11 c12
    have hlt2 := box_lt hbox2
    have hb8 := hb1.trans (hW.mono hbz)
    
    all_goals
      go_wp2_with fail
      refine (kc _).mono ?_
      rintro e w3 ⟨rfl, hb3⟩
      have hb9 := hb8.trans (hb3.mono (Nat.le_trans hbz hW.size))
      cases rc <;> cases re <;> (go_wp2; go_ret; rw [HF1.out]; exact ⟨rfl, by rw [Hbb.out]; exact hb9⟩)
  have e2 : (k == 2) = false := by simpa using h2
  by_cases h3 : k = 3
  · have HF1 : Hid (r = (rf && rz)) := by rw [Hid, HF.out, if_neg h1, if_neg h2, if_pos h3]
    clear HF kc h1 e1 h2 e2
    subst h3
    go_enter Tryz.func23, Tryz.ntmps23
    go_wp2_with fail
    have hbz := hb1.size
    generalize w.alloc (.cells #[.int .i64 i, .int .i64 t, .int .i64 3, .int .i64 ck, .int .i64 cs, .int .i64 cq, .string ckey, .string cold, .string cval, .string cunt, .int .i64 clim, .slice p n c, .slice q m d] 30) = W1 at *
    generalize hbb : w.heap.size = b at *
    have Hbb : Hid (w.heap.size = b) := hbb
    clear hbb
    obtain ⟨c0, c1, c2, c3, c4, c5, c6, c7, c8, c9, c10, c11, c12⟩ := hbox.cells
    dsimp only at c0 c1 c2 c3 c4 c5 c6 c7 c8 c9 c10 c11 c12
    have hlt := box_lt hbox
    have s0 := keepE0 c3 c4 c5 c6 c7 c8 c9 c10 c11 c12
    go_region_held3 (fun w' => w'.cell? ⟨b, 3, none⟩ = some (.int .i64 ck) ∧ w'.cell? ⟨b, 4, none⟩ = some (.int .i64 cs) ∧ w'.cell? ⟨b, 5, none⟩ = some (.int .i64 cq) ∧ w'.cell? ⟨b, 6, none⟩ = some (.string ckey) ∧ w'.cell? ⟨b, 7, none⟩ = some (.string cold) ∧ w'.cell? ⟨b, 8, none⟩ = some (.string cval) ∧ w'.cell? ⟨b, 9, none⟩ = some (.string cunt) ∧ w'.cell? ⟨b, 10, none⟩ = some (.int .i64 clim) ∧ w'.cell? ⟨b, 11, none⟩ = some (.slice p n c) ∧ w'.cell? ⟨b, 12, none⟩ = some (.slice q m d) ∧ Below W1.heap.size W1 w')
      (first | exact s0 | assumption | exact keepE hlt (by assumption) (by assumption))
      (first
        | (go_at_call 63; refine Calls.mono (ks _ (keepEB (by assumption))) ?_; rintro e w2 ⟨rfl, hb2⟩))
    have hW : Below W1.heap.size W1 w2 := keepEB (by assumption)
    have hbox2 : EntAt w2 b ⟨i, t, 3, ⟨ck, cs, cq, ckey, cold, cval, cunt, clim⟩, ⟨⟨p, n, c⟩, ⟨q, m, d⟩, f⟩⟩ := box_below hbox hW
    clear c0 c1 c2 c3 c4 c5 c6 c7 c8 c9 c10 c11 c12 hbox
    obtain ⟨c0, c1, c2, c3, c4, c5, c6, c7, c8, c9, c10, c11, c12⟩ := hbox2.cells
    dsimp only at c0 c1 c2 c3 c4 c5 c6 c7 c8 c9 c10 c11 c12
    have hlt2 := box_lt hbox2
    have hb8 := hb1.trans (hW.mono hbz)
    
    all_goals
      cases rz with
      | false =>
        go_wp2
        go_ret
        rw [HF1.out]
        exact ⟨by simp, by rw [Hbb.out]; exact hb8⟩
      | true =>
        have kf1 := kf _ hW
        go_wp2_with fail
        refine kf1.mono ?_
        rintro e w3 ⟨rfl, hb3⟩
        have hb9 := hb8.trans (hb3.mono (Nat.le_trans hbz hW.size))
        go_wp2
        go_ret
        rw [HF1.out]
        exact ⟨by simp, by rw [Hbb.out]; exact hb9⟩
  have e3 : (k == 3) = false := by simpa using h3
  have HF1 : Hid (r = false) := by rw [Hid, HF.out, if_neg h1, if_neg h2, if_neg h3]
  clear HF kc kf h1 h2 h3
  go_enter Tryz.func23, Tryz.ntmps23
  go_wp2_with fail
  have hbz := hb1.size
  generalize w.alloc (.cells #[.int .i64 i, .int .i64 t, .int .i64 k, .int .i64 ck, .int .i64 cs, .int .i64 cq, .string ckey, .string cold, .string cval, .string cunt, .int .i64 clim, .slice p n c, .slice q m d] 30) = W1 at *
  generalize hbb : w.heap.size = b at *
  have Hbb : Hid (w.heap.size = b) := hbb
  clear hbb
  obtain ⟨c0, c1, c2, c3, c4, c5, c6, c7, c8, c9, c10, c11, c12⟩ := hbox.cells
  dsimp only at c0 c1 c2 c3 c4 c5 c6 c7 c8 c9 c10 c11 c12
  have hlt := box_lt hbox
  have s0 := keepE0 c3 c4 c5 c6 c7 c8 c9 c10 c11 c12
  go_region_held3 (fun w' => w'.cell? ⟨b, 3, none⟩ = some (.int .i64 ck) ∧ w'.cell? ⟨b, 4, none⟩ = some (.int .i64 cs) ∧ w'.cell? ⟨b, 5, none⟩ = some (.int .i64 cq) ∧ w'.cell? ⟨b, 6, none⟩ = some (.string ckey) ∧ w'.cell? ⟨b, 7, none⟩ = some (.string cold) ∧ w'.cell? ⟨b, 8, none⟩ = some (.string cval) ∧ w'.cell? ⟨b, 9, none⟩ = some (.string cunt) ∧ w'.cell? ⟨b, 10, none⟩ = some (.int .i64 clim) ∧ w'.cell? ⟨b, 11, none⟩ = some (.slice p n c) ∧ w'.cell? ⟨b, 12, none⟩ = some (.slice q m d) ∧ Below W1.heap.size W1 w')
    (first | exact s0 | assumption | exact keepE hlt (by assumption) (by assumption))
    (first
      | (go_at_call 63; refine Calls.mono (ks _ (keepEB (by assumption))) ?_; rintro e w2 ⟨rfl, hb2⟩))
  have hW : Below W1.heap.size W1 w2 := keepEB (by assumption)
  have hbox2 : EntAt w2 b ⟨i, t, k, ⟨ck, cs, cq, ckey, cold, cval, cunt, clim⟩, ⟨⟨p, n, c⟩, ⟨q, m, d⟩, f⟩⟩ := box_below hbox hW
  clear c0 c1 c2 c3 c4 c5 c6 c7 c8 c9 c10 c11 c12 hbox
  obtain ⟨c0, c1, c2, c3, c4, c5, c6, c7, c8, c9, c10, c11, c12⟩ := hbox2.cells
  dsimp only at c0 c1 c2 c3 c4 c5 c6 c7 c8 c9 c10 c11 c12
  have hlt2 := box_lt hbox2
  have hb8 := hb1.trans (hW.mono hbz)
  
  all_goals
    go_wp2
    go_ret
    rw [HF1.out]
    exact ⟨rfl, by rw [Hbb.out]; exact hb8⟩
end Go.Proofs.YtnbaoimjcaeeaaaGreat

/-
  Contracts: command.Reads, Changes; what lives and great of the statements tell.
-/
namespace Go.Proofs.YtnbaoimjcaeeaaaGreat
open Go.RowKit Go.Lib
end Go.Proofs.YtnbaoimjcaeeaaaGreat
