/-
  Contracts: corbelref10.GoodMsg.
-/
import Derived.Test.YtnbaoimjcaeeaaaGreatEp3
import Derived.Test.YtnbaoimjcaeeaaaGreatEr4
namespace Go.Proofs.YtnbaoimjcaeeaaaGreat
open Go.RowKit Go.Shelf

theorem rgood_parts (x : MsgV) (hn : x.es.length = x.w.n) : goodM10 x.m = true ↔ (1 ≤ x.k ∧ x.k ≤ 10 ∧ 1 ≤ x.fr ∧ x.fr ≤ 9 ∧ 1 ≤ x.«to» ∧ x.«to» ≤ 9 ∧ 1 ≤ x.t ∧ 0 ≤ x.i ∧ 0 ≤ x.lt ∧ 0 ≤ x.cm ∧ 0 ≤ x.ro ∧ 0 ≤ x.hint) ∧ x.w.n ≤ 16 ∧ (x.w.n = 0 ∨ x.k = 5) ∧ (∀ j, j < x.w.n → okE10 x.i x.t j (x.es.getD j noEV).e = true) ∧ (if x.k = 7 then goodS10 x.sn.s else sameS10 x.sn.s noSV.s) = true := by
  unfold goodM10 MsgV.m
  dsimp only
  simp only [Bool.and_eq_true, decide_eq_true_eq, Bool.or_eq_true, List.all_eq_true, List.mem_range, List.length_map, hn, mapE_getD, List.isEmpty_iff, List.map_eq_nil_iff, noSV_s]
  have he : x.es = [] ↔ x.w.n = 0 := by rw [← hn, List.length_eq_zero_iff]
  rw [he]
  unfold okE10
  simp only [Bool.and_eq_true, decide_eq_true_eq]
  constructor
  · rintro ⟨⟨⟨⟨⟨⟨⟨⟨⟨⟨⟨⟨⟨⟨⟨h1, h2⟩, h3⟩, h4⟩, h5⟩, h6⟩, h7⟩, h8⟩, h9⟩, h10⟩, h11⟩, h12⟩, h13⟩, h14⟩, h15⟩, h16⟩
    exact ⟨⟨h1, h2, h3, h4, h5, h6, h7, h8, h9, h10, h11, h12⟩, h13, h14, h15, h16⟩
  · rintro ⟨⟨h1, h2, h3, h4, h5, h6, h7, h8, h9, h10, h11, h12⟩, h13, h14, h15, h16⟩
    exact ⟨⟨⟨⟨⟨⟨⟨⟨⟨⟨⟨⟨⟨⟨⟨h1, h2⟩, h3⟩, h4⟩, h5⟩, h6⟩, h7⟩, h8⟩, h9⟩, h10⟩, h11⟩, h12⟩, h13⟩, h14⟩, h15⟩, h16⟩

set_option maxRecDepth 100000 in
set_option maxHeartbeats 8000000 in
theorem rgoodMsg_any (x : MsgV) (w : World) (hF : FitsM w x) : Calls Tryz.prog 18 #[.agg x.arr] w fun e w' => e = .returned (.bool (goodM10 x.m)) ∧ Below w.heap.size w w' := by
  have hb1 : Below w.heap.size w (w.alloc (.cells x.arr 53)) := (Below.refl _ _).alloc (Nat.le_refl _) _
  have hbox : MsgAt (w.alloc (.cells x.arr 53)) w.heap.size x := heap_alloc_new w _
  have hbz := hb1.size
  have HX : Hid (∀ W, Below w.heap.size w W → HasE W x.w x.es) := fun W h => hF.es.below h
  have hi2 := hF.i.2
  have hlen := hF.len
  have HP : Hid _ := rgood_parts x hF.es.n
  have KG : Hid (∀ W, Below w.heap.size w W → Calls Tryz.prog 41 #[.agg x.sn.arr] W fun e w' => e = .returned (.bool (goodS10 x.sn.s)) ∧ Below W.heap.size W w') := fun W h => rgoodSnap_any x.sn W (hF.sn.below h)
  have KS : Hid (∀ W, Below w.heap.size w W → Calls Tryz.prog 13 #[.agg x.sn.arr, .agg noSV.arr] W fun e w' => e = .returned (.bool (sameS10 x.sn.s noSV.s)) ∧ Below W.heap.size W w') := fun W h => rsameSnap_any x.sn noSV W (hF.sn.below h) (FitsS.nil W)
  have HNo : Hid (¬ ((1 ≤ x.k ∧ x.k ≤ 10 ∧ 1 ≤ x.fr ∧ x.fr ≤ 9 ∧ 1 ≤ x.«to» ∧ x.«to» ≤ 9 ∧ 1 ≤ x.t ∧ 0 ≤ x.i ∧ 0 ≤ x.lt ∧ 0 ≤ x.cm ∧ 0 ≤ x.ro ∧ 0 ≤ x.hint) ∧ x.w.n ≤ 16 ∧ (x.w.n = 0 ∨ x.k = 5)) → goodM10 x.m = false) := fun h => by
    cases hg : goodM10 x.m with
    | false => rfl
    | true => obtain ⟨a1, a2, a3, -⟩ := HP.out.1 hg; exact absurd ⟨a1, a2, a3⟩ h
  have HJ : Hid (∀ j, j < x.w.n → okE10 x.i x.t j (x.es.getD j noEV).e = false → goodM10 x.m = false) := fun j hj h => by
    cases hg : goodM10 x.m with
    | false => rfl
    | true => have := (HP.out.1 hg).2.2.2.1 j hj; rw [h] at this; cases this
  have HY : Hid (((1 ≤ x.k ∧ x.k ≤ 10 ∧ 1 ≤ x.fr ∧ x.fr ≤ 9 ∧ 1 ≤ x.«to» ∧ x.«to» ≤ 9 ∧ 1 ≤ x.t ∧ 0 ≤ x.i ∧ 0 ≤ x.lt ∧ 0 ≤ x.cm ∧ 0 ≤ x.ro ∧ 0 ≤ x.hint) ∧ x.w.n ≤ 16 ∧ (x.w.n = 0 ∨ x.k = 5)) → (∀ j, j < x.w.n → okE10 x.i x.t j (x.es.getD j noEV).e = true) → goodM10 x.m = if x.k = 7 then goodS10 x.sn.s else sameS10 x.sn.s noSV.s) := fun h1 h2 => by
    rw [Bool.eq_iff_iff, HP.out]
    exact ⟨fun h => h.2.2.2.2, fun h => ⟨h1.1, h1.2.1, h1.2.2, h2, h⟩⟩
  generalize goodS10 x.sn.s = r1 at *
  generalize sameS10 x.sn.s noSV.s = r2 at *
  generalize goodM10 x.m = r at *
  clear hF HP
  obtain ⟨k, fr, too, t, i, lt, cm, ro, rej, hint, ⟨a, b, e⟩, es, ⟨si, st, ⟨⟨p, n, c⟩, ⟨q, m, d⟩, f⟩, ⟨a', b', e'⟩, dd⟩⟩ := x
  unfold MsgV.arr at *
  unfold SnapV.arr at *
  dsimp only [noSV, noFV, nilS10] at *
  by_cases n0 : 1 ≤ k
  case neg =>
    have HF : Hid (r = false) := HNo.out fun h => n0 h.1.1
    clear HNo HJ HY KG KS HX
    go_enter Tryz.func18, Tryz.ntmps18
    go_wp2
    go_ret
    rw [HF.out]
    exact ⟨rfl, hb1⟩
  by_cases n1 : k ≤ 10
  case neg =>
    have HF : Hid (r = false) := HNo.out fun h => n1 h.1.2.1
    clear HNo HJ HY KG KS HX
    go_enter Tryz.func18, Tryz.ntmps18
    go_wp2
    go_ret
    rw [HF.out]
    exact ⟨rfl, hb1⟩
  by_cases n2 : 1 ≤ fr
  case neg =>
    have HF : Hid (r = false) := HNo.out fun h => n2 h.1.2.2.1
    clear HNo HJ HY KG KS HX
    go_enter Tryz.func18, Tryz.ntmps18
    go_wp2
    go_ret
    rw [HF.out]
    exact ⟨rfl, hb1⟩
  by_cases n3 : fr ≤ 9
  case neg =>
    have HF : Hid (r = false) := HNo.out fun h => n3 h.1.2.2.2.1
    clear HNo HJ HY KG KS HX
    go_enter Tryz.func18, Tryz.ntmps18
    go_wp2
    go_ret
    rw [HF.out]
    exact ⟨rfl, hb1⟩
  by_cases n4 : 1 ≤ too
  case neg =>
    have HF : Hid (r = false) := HNo.out fun h => n4 h.1.2.2.2.2.1
    clear HNo HJ HY KG KS HX
    go_enter Tryz.func18, Tryz.ntmps18
    go_wp2
    go_ret
    rw [HF.out]
    exact ⟨rfl, hb1⟩
  by_cases n5 : too ≤ 9
  case neg =>
    have HF : Hid (r = false) := HNo.out fun h => n5 h.1.2.2.2.2.2.1
    clear HNo HJ HY KG KS HX
    go_enter Tryz.func18, Tryz.ntmps18
    go_wp2
    go_ret
    rw [HF.out]
    exact ⟨rfl, hb1⟩
  by_cases n6 : 1 ≤ t
  case neg =>
    have HF : Hid (r = false) := HNo.out fun h => n6 h.1.2.2.2.2.2.2.1
    clear HNo HJ HY KG KS HX
    go_enter Tryz.func18, Tryz.ntmps18
    go_wp2
    go_ret
    rw [HF.out]
    exact ⟨rfl, hb1⟩
  by_cases n7 : 0 ≤ i
  case neg =>
    have HF : Hid (r = false) := HNo.out fun h => n7 h.1.2.2.2.2.2.2.2.1
    clear HNo HJ HY KG KS HX
    go_enter Tryz.func18, Tryz.ntmps18
    go_wp2
    go_ret
    rw [HF.out]
    exact ⟨rfl, hb1⟩
  by_cases n8 : 0 ≤ lt
  case neg =>
    have HF : Hid (r = false) := HNo.out fun h => n8 h.1.2.2.2.2.2.2.2.2.1
    clear HNo HJ HY KG KS HX
    go_enter Tryz.func18, Tryz.ntmps18
    go_wp2
    go_ret
    rw [HF.out]
    exact ⟨rfl, hb1⟩
  by_cases n9 : 0 ≤ cm
  case neg =>
    have HF : Hid (r = false) := HNo.out fun h => n9 h.1.2.2.2.2.2.2.2.2.2.1
    clear HNo HJ HY KG KS HX
    go_enter Tryz.func18, Tryz.ntmps18
    go_wp2
    go_ret
    rw [HF.out]
    exact ⟨rfl, hb1⟩
  by_cases n10 : 0 ≤ ro
  case neg =>
    have HF : Hid (r = false) := HNo.out fun h => n10 h.1.2.2.2.2.2.2.2.2.2.2.1
    clear HNo HJ HY KG KS HX
    go_enter Tryz.func18, Tryz.ntmps18
    go_wp2
    go_ret
    rw [HF.out]
    exact ⟨rfl, hb1⟩
  by_cases n11 : 0 ≤ hint
  case neg =>
    have HF : Hid (r = false) := HNo.out fun h => n11 h.1.2.2.2.2.2.2.2.2.2.2.2
    clear HNo HJ HY KG KS HX
    go_enter Tryz.func18, Tryz.ntmps18
    go_wp2
    go_ret
    rw [HF.out]
    exact ⟨rfl, hb1⟩
  by_cases n12 : b ≤ 16
  case neg =>
    have HF : Hid (r = false) := HNo.out fun h => n12 h.2.1
    clear HNo HJ HY KG KS HX
    have n12' : (16 : Int) < (b : Int) := by omega
    go_enter Tryz.func18, Tryz.ntmps18
    go_wp2
    go_ret
    rw [HF.out]
    exact ⟨rfl, hb1⟩
  by_cases n13 : b = 0 ∨ k = 5
  case neg =>
    have HF : Hid (r = false) := HNo.out fun h => n13 h.2.2
    have hb0 : (0 : Int) < (b : Int) := by omega
    have ek : (k != 5) = true := by simp; omega
    clear HNo HJ HY KG KS HX
    go_enter Tryz.func18, Tryz.ntmps18
    go_wp2
    go_ret
    rw [HF.out]
    exact ⟨rfl, hb1⟩
  replace HY : Hid ((∀ j, j < b → okE10 i t j (es.getD j noEV).e = true) → r = if k = 7 then r1 else r2) := HY.out ⟨⟨n0, n1, n2, n3, n4, n5, n6, n7, n8, n9, n10, n11⟩, n12, n13⟩
  clear HNo
  by_cases hb0 : (0 : Int) < (b : Int)
  · have ek : (k != 5) = false := by rw [show k = 5 by omega]; rfl
    have n7 : ¬ k = 7 := by omega
    clear n13
    go_enter Tryz.func18, Tryz.ntmps18
    go_wp2
    generalize w.alloc (.cells #[.int .i64 k, .int .i64 fr, .int .i64 too, .int .i64 t, .int .i64 i, .int .i64 lt, .int .i64 cm, .int .i64 ro, .bool rej, .int .i64 hint, .slice a b e, .int .i64 si, .int .i64 st, .slice p n c, .slice q m d, .slice a' b' e'] 53) = W1 at *
    replace hbox : MsgAt W1 w.heap.size ⟨k, fr, too, t, i, lt, cm, ro, rej, hint, ⟨a, b, e⟩, es, ⟨si, st, ⟨⟨p, n, c⟩, ⟨q, m, d⟩, f⟩, ⟨a', b', e'⟩, dd⟩⟩ := hbox
    go_loopw [81] (fun s81 wr => ∃ j : Nat, j ≤ b ∧ s81 = .int .i64 (j : Nat) ∧ Hid (∀ i', i' < j → okE10 i t i' (es.getD i' noEV).e = true) ∧ Below W1.heap.size W1 wr) (fun s81 _ => b - (intOf s81).toNat)
    case atStart => exact ⟨0, Nat.zero_le _, rfl, (fun i hi => by omega), Below.refl _ _⟩
    case round =>
      obtain ⟨j, hj, rfl, hok, hb⟩ := hrel
      have hbw : Below w.heap.size w wr := hb1.trans (hb.mono hbz)
      have hbm : MsgAt wr w.heap.size ⟨k, fr, too, t, i, lt, cm, ro, rej, hint, ⟨a, b, e⟩, es, ⟨si, st, ⟨⟨p, n, c⟩, ⟨q, m, d⟩, f⟩, ⟨a', b', e'⟩, dd⟩⟩ := box_below hbox hb
      by_cases hlt : j < b
      · obtain ⟨bb, o, x, hp, hbl, Hx, -, hfit, g0, g1, g2, g3, g4, g5, g6, g7, g8, g9, g10, g11, g12⟩ := (HX.out wr hbw).at (j := j) hlt
        dsimp only at hp
        subst hp
        have hba : Below wr.heap.size wr (wr.alloc (.cells x.arr 30)) := (Below.refl _ _).alloc (Nat.le_refl _) _
        have hbn : EntAt (wr.alloc (.cells x.arr 30)) wr.heap.size x := heap_alloc_new wr _
        have hbm2 := box_below hbm hba
        have kg := rgoodE_any x _ (hfit.below hba)
        have HO : Hid (okE10 i t j (es.getD j noEV).e = (goodE10 x.e && decide (x.i - i = (j : Int) + 1) && decide (x.t ≤ t))) := by rw [Hid, ← Hx]; rfl
        have HGi : Hid (goodE10 x.e = true → 1 ≤ x.i) := fun h => goodE10_i h
        have hxi := hfit.i.2
        have hB2 := hb.trans (hba.mono hb.size)
        have hbas := hba.size
        generalize goodE10 x.e = ge at *
        clear hfit Hx hbm hba KG KS
        obtain ⟨xi, xt, xk, ⟨ck, cs, cq, ckey, cold, cval, cunt, clim⟩, ⟨⟨p1, n1, c1⟩, ⟨q1, m1, d1⟩, f1⟩⟩ := x
        unfold EntV.arr at *
        dsimp only at *
        go_wp2_with fail
        generalize wr.alloc (.cells #[.int .i64 xi, .int .i64 xt, .int .i64 xk, .int .i64 ck, .int .i64 cs, .int .i64 cq, .string ckey, .string cold, .string cval, .string cunt, .int .i64 clim, .slice p1 n1 c1, .slice q1 m1 d1] 30) = W2 at *
        refine kg.mono ?_
        rintro e2 w3 ⟨rfl, hb3⟩
        have hB3 := hB2.trans (hb3.mono hB2.size)
        have hB9 : Below w.heap.size w w3 := hb1.trans (hB3.mono hbz)
        clear kg g0 g1 g2 g3 g4 g5 g6 g7 g8 g9 g10 g11 g12
        cases ge with
        | false =>
          have HR : Hid (r = false) := HJ.out j hlt (by rw [HO.out]; rfl)
          go_wp2
          go_ret
          rw [HR.out]
          exact ⟨rfl, hB9⟩
        | true =>
          have hx1 := HGi.out rfl
          have m3 : MsgAt w3 w.heap.size ⟨k, fr, too, t, i, lt, cm, ro, rej, hint, ⟨some ⟨bb, o, none⟩, b, e⟩, es, ⟨si, st, ⟨⟨p, n, c⟩, ⟨q, m, d⟩, f⟩, ⟨a', b', e'⟩, dd⟩⟩ := box_below hbm2 hb3
          have n3 : EntAt w3 wr.heap.size ⟨xi, xt, xk, ⟨ck, cs, cq, ckey, cold, cval, cunt, clim⟩, ⟨⟨p1, n1, c1⟩, ⟨q1, m1, d1⟩, f1⟩⟩ := box_below hbn hb3
          have c3 := box_cell m3 3
          have c4 := box_cell m3 4
          have d0 := box_cell n3 0
          have d1 := box_cell n3 1
          have hl1 := box_lt m3
          have hl2 := box_lt n3
          dsimp only [MsgV.arr, EntV.arr] at c3 c4 d0 d1
          by_cases hd : xi - i = (j : Int) + 1
          · have ed : (xi - i != (j : Int) + 1) = false := by simpa using hd
            by_cases ht : t < xt
            · have HR : Hid (r = false) := HJ.out j hlt (by rw [HO.out, decide_eq_false (p := xt ≤ t) (by omega)]; simp)
              clear hok HO
              go_wp2
              go_ret
              rw [HR.out]
              exact ⟨rfl, hB9⟩
            · have HOK : Hid (∀ i', i' < j + 1 → okE10 i t i' (es.getD i' noEV).e = true) := fun i' hi' => by
                by_cases e9 : i' = j
                · rw [e9, HO.out, decide_eq_true hd, decide_eq_true (p := xt ≤ t) (by omega)]; rfl
                · exact hok.out i' (by omega)
              clear hok HO
              go_wp2
              go_roundw
              case rel => exact ⟨j + 1, by omega, by go_num, HOK.out, hB3⟩
              case measure => simp only [intOf]; omega
          · have HR : Hid (r = false) := HJ.out j hlt (by rw [HO.out, decide_eq_false hd]; simp)
            have ed : (xi - i != (j : Int) + 1) = true := by simpa using hd
            clear hok HO
            go_wp2
            go_ret
            rw [HR.out]
            exact ⟨rfl, hB9⟩
      · have HR : Hid (r = if k = 7 then r1 else r2) := HY.out fun j' hj' => hok.out j' (by omega)
        clear HY HJ HX hok
        have c0 := box_cell hbm 0
        have c11 := box_cell hbm 11
        have c12 := box_cell hbm 12
        have c13 := box_cell hbm 13
        have c14 := box_cell hbm 14
        have c15 := box_cell hbm 15
        dsimp only [MsgV.arr] at c0 c11 c12 c13 c14 c15
        have hl1 := box_lt hbm
        have k7 := KS.out wr hbw
        have e7 : (k == 7) = false := by simpa using n7
        have HR2 : Hid (r = r2) := by rw [Hid, HR.out, if_neg n7]
        clear KG KS HR hbm hbox hb
        go_wp2_with fail
        refine k7.mono ?_
        rintro _ w9 ⟨rfl, hb9⟩
        go_wp2
        go_ret
        rw [HR2.out]
        exact ⟨rfl, hbw.trans (hb9.mono hbw.size)⟩
  · clear n13
    go_enter Tryz.func18, Tryz.ntmps18
    go_wp2
    generalize w.alloc (.cells #[.int .i64 k, .int .i64 fr, .int .i64 too, .int .i64 t, .int .i64 i, .int .i64 lt, .int .i64 cm, .int .i64 ro, .bool rej, .int .i64 hint, .slice a b e, .int .i64 si, .int .i64 st, .slice p n c, .slice q m d, .slice a' b' e'] 53) = W1 at *
    replace hbox : MsgAt W1 w.heap.size ⟨k, fr, too, t, i, lt, cm, ro, rej, hint, ⟨a, b, e⟩, es, ⟨si, st, ⟨⟨p, n, c⟩, ⟨q, m, d⟩, f⟩, ⟨a', b', e'⟩, dd⟩⟩ := hbox
    go_loopw [81] (fun s81 wr => ∃ j : Nat, j ≤ b ∧ s81 = .int .i64 (j : Nat) ∧ Hid (∀ i', i' < j → okE10 i t i' (es.getD i' noEV).e = true) ∧ Below W1.heap.size W1 wr) (fun s81 _ => b - (intOf s81).toNat)
    case atStart => exact ⟨0, Nat.zero_le _, rfl, (fun i hi => by omega), Below.refl _ _⟩
    case round =>
      obtain ⟨j, hj, rfl, hok, hb⟩ := hrel
      have hbw : Below w.heap.size w wr := hb1.trans (hb.mono hbz)
      have hbm : MsgAt wr w.heap.size ⟨k, fr, too, t, i, lt, cm, ro, rej, hint, ⟨a, b, e⟩, es, ⟨si, st, ⟨⟨p, n, c⟩, ⟨q, m, d⟩, f⟩, ⟨a', b', e'⟩, dd⟩⟩ := box_below hbox hb
      by_cases hlt : j < b
      · omega
      · have HR : Hid (r = if k = 7 then r1 else r2) := HY.out fun j' hj' => hok.out j' (by omega)
        clear HY HJ HX hok
        have c0 := box_cell hbm 0
        have c11 := box_cell hbm 11
        have c12 := box_cell hbm 12
        have c13 := box_cell hbm 13
        have c14 := box_cell hbm 14
        have c15 := box_cell hbm 15
        dsimp only [MsgV.arr] at c0 c11 c12 c13 c14 c15
        have hl1 := box_lt hbm
        by_cases h7 : k = 7
        · have k7 := KG.out wr hbw
          have HR2 : Hid (r = r1) := by rw [Hid, HR.out, if_pos h7]
          subst h7
          clear KG KS HR hbm hbox hb
          go_wp2_with fail
          refine k7.mono ?_
          rintro _ w9 ⟨rfl, hb9⟩
          go_wp2
          go_ret
          rw [HR2.out]
          exact ⟨rfl, hbw.trans (hb9.mono hbw.size)⟩
        · have k7 := KS.out wr hbw
          have e7 : (k == 7) = false := by simpa using h7
          have HR2 : Hid (r = r2) := by rw [Hid, HR.out, if_neg h7]
          clear KG KS HR hbm hbox hb
          go_wp2_with fail
          refine k7.mono ?_
          rintro _ w9 ⟨rfl, hb9⟩
          go_wp2
          go_ret
          rw [HR2.out]
          exact ⟨rfl, hbw.trans (hb9.mono hbw.size)⟩
end Go.Proofs.YtnbaoimjcaeeaaaGreat
