/-
  Contracts: entry.sameSnap, entriesFit, snapFits, GoodMsg.
-/
import Derived.Test.YtnbaoimjcaeeaaaGreatEo4To
import Derived.Test.YtnbaoimjcaeeaaaGreatEo4To
namespace Go.Proofs.YtnbaoimjcaeeaaaGreat
open Go.RowKit Go.Shelf

/-- An entry that may stand at place j of a message. -/
def okE10 (i t : Int) (j : Nat) (e : Ent10) : Bool := goodE10 e && decide (e.i - i = (j : Int) + 1) && decide (e.t ≤ t)
def entFit10 (x : Msg10) : Bool := if x.k = 5 then decide (x.es.length ≤ 16) && (List.range x.es.length).all (fun j => okE10 x.i x.t j (x.es.getD j noE10)) else x.es.isEmpty
def snFit10 (x : Msg10) : Bool := if x.k = 7 then goodS10 x.sn else sameS10 x.sn noS10
theorem mapE_getD (es : List EntV) (j : Nat) : (es.map EntV.e).getD j noE10 = (es.getD j noEV).e := by
  rw [← noEV_e, List.getD_eq_getElem?_getD, List.getD_eq_getElem?_getD, List.getElem?_map]
  cases es[j]? <;> rfl
theorem goodE10_i {e : Ent10} (h : goodE10 e = true) : 1 ≤ e.i := by
  unfold goodE10 at h
  rw [Bool.and_eq_true, Bool.and_eq_true] at h
  exact of_decide_eq_true h.1.1
theorem goodM10_is (x : Msg10) : goodM10 x = (decide (1 ≤ x.k) && decide (x.k ≤ 10) && isNode10 x.fr && isNode10 x.to && decide (1 ≤ x.t) && decide (0 ≤ min (min (min (min x.i x.lt) x.cm) x.ro) x.hint) && entFit10 x && snFit10 x) := by
  have hm : decide (0 ≤ min (min (min (min x.i x.lt) x.cm) x.ro) x.hint) = (decide (0 ≤ x.i) && decide (0 ≤ x.lt) && decide (0 ≤ x.cm) && decide (0 ≤ x.ro) && decide (0 ≤ x.hint)) := by
    rw [Bool.eq_iff_iff]
    simp only [Bool.and_eq_true, decide_eq_true_eq]
    omega
  rw [hm]
  unfold goodM10 entFit10 snFit10 isNode10
  have hn : ∀ n : Int, decide (1 ≤ n ∧ n ≤ 9) = (decide (1 ≤ n) && decide (n ≤ 9)) := fun n => by rw [Bool.eq_iff_iff]; simp
  rw [hn, hn]
  by_cases h5 : x.k = 5
  · rw [if_pos h5, decide_eq_true h5, Bool.or_true, Bool.and_true]
    unfold okE10
    simp only [Bool.and_assoc]
  · rw [if_neg h5, decide_eq_false h5, Bool.or_false]
    cases hes : x.es with
    | nil => simp [Bool.and_assoc]
    | cons a l => simp

set_option maxRecDepth 100000 in
set_option maxHeartbeats 2000000 in
theorem sameSnap_any (x y : SnapV) (w : World) (hx : FitsS w x) (hy : FitsS w y) : Calls Tryz.prog 84 #[.agg x.arr, .agg y.arr] w fun e w' => e = .returned (.bool (sameS10 x.s y.s)) ∧ Below w.heap.size w w' := by
  have hb1 : Below w.heap.size w (w.alloc (.cells x.arr 43)) := (Below.refl _ _).alloc (Nat.le_refl _) _
  have hz1 : (w.alloc (.cells x.arr 43)).heap.size = w.heap.size + 1 := by simp
  have hb2 := (Below.refl _ (w.alloc (.cells x.arr 43))).alloc (Nat.le_refl _) (.cells y.arr 43)
  have hbx : SnapAt (w.alloc (.cells x.arr 43)) w.heap.size x := heap_alloc_new w _
  have hby : SnapAt ((w.alloc (.cells x.arr 43)).alloc (.cells y.arr 43)) (w.heap.size + 1) y := by rw [← hz1]; exact heap_alloc_new _ _
  have hbx2 : SnapAt _ w.heap.size x := box_below hbx hb2
  have hB := hb1.trans (hb2.mono hb1.size)
  have hbz := hB.size
  have hx2 := (hx.below hb1).below hb2
  have hy2 := (hy.below hb1).below hb2
  have ks := sameConf_any x.f y.f _ hx2.f hy2.f
  have kd : Hid (∀ W, Below w.heap.size w W → Calls Tryz.prog 118 #[.slice x.w.p x.w.n x.w.c, .slice y.w.p y.w.n y.w.c] W fun e w' => e = .returned (.bool (decide (x.d = y.d))) ∧ w' = W) := fun W h => alikeB_any _ _ _ _ _ _ x.d y.d W (hx.w.below h (Nat.le_refl _)) (hy.w.below h (Nat.le_refl _)) hx.l hy.l
  have HS : Hid (sameS10 x.s y.s = (decide (x.i = y.i) && decide (x.t = y.t) && sameF10 x.f.f y.f.f && decide (x.d = y.d))) := rfl
  generalize sameF10 x.f.f y.f.f = rf at *
  generalize decide (x.d = y.d) = rd at *
  generalize hr : sameS10 x.s y.s = r at *
  clear hr hx hy hb1 hb2 hx2 hy2 hbx hz1
  obtain ⟨i, t, ⟨⟨p, n, c⟩, ⟨q, m, d⟩, f⟩, ⟨a, b, e⟩, dd⟩ := x
  obtain ⟨i', t', ⟨⟨p', n', c'⟩, ⟨q', m', d'⟩, f'⟩, ⟨a', b', e'⟩, dd'⟩ := y
  unfold SnapV.arr at *
  unfold ConfV.arr at *
  dsimp only at *
  by_cases h1 : i = i'
  case neg =>
    have HF : Hid (r = false) := by rw [Hid, HS.out, decide_eq_false h1]; simp
    have e9 : (i == i') = false := by simpa using h1
    clear HS ks kd
    go_enter Tryz.func84, Tryz.ntmps84
    go_wp2
    go_ret
    rw [HF.out]
    exact ⟨rfl, hB⟩
  subst h1
  by_cases h2 : t = t'
  case neg =>
    have HF : Hid (r = false) := by rw [Hid, HS.out, decide_eq_false h2]; simp
    have e9 : (t == t') = false := by simpa using h2
    clear HS ks kd
    go_enter Tryz.func84, Tryz.ntmps84
    go_wp2
    go_ret
    rw [HF.out]
    exact ⟨rfl, hB⟩
  subst h2
  have HF : Hid (r = (rf && rd)) := by rw [Hid, HS.out, decide_eq_true rfl, decide_eq_true rfl]; rfl
  clear HS
  cases rf with
  | false =>
    go_enter Tryz.func84, Tryz.ntmps84
    go_wp2_with fail
    refine ks.mono ?_
    rintro _ w3 ⟨rfl, hb3⟩
    have hb9 := hB.trans (hb3.mono hbz)
    go_wp2
    go_ret
    rw [HF.out]
    exact ⟨rfl, hb9⟩
  | true =>
    go_enter Tryz.func84, Tryz.ntmps84
    go_wp2_with fail
    generalize (w.alloc (.cells #[.int .i64 i, .int .i64 t, .slice p n c, .slice q m d, .slice a b e] 43)).alloc (.cells #[.int .i64 i, .int .i64 t, .slice p' n' c', .slice q' m' d', .slice a' b' e'] 43) = W2 at *
    refine ks.mono ?_
    rintro _ w3 ⟨rfl, hb3⟩
    have hb9 := hB.trans (hb3.mono hbz)
    have k4 := kd.out w3 hb9
    have e1 : SnapAt w3 w.heap.size ⟨i, t, ⟨⟨p, n, c⟩, ⟨q, m, d⟩, f⟩, ⟨a, b, e⟩, dd⟩ := box_below hbx2 hb3
    have e2 : SnapAt w3 (w.heap.size + 1) ⟨i, t, ⟨⟨p', n', c'⟩, ⟨q', m', d'⟩, f'⟩, ⟨a', b', e'⟩, dd'⟩ := box_below hby hb3
    obtain ⟨c0, c1, c2, c3, c4⟩ := e1.cells
    obtain ⟨d0, d1, d2, d3, d4⟩ := e2.cells
    dsimp only at c0 c1 c2 c3 c4 d0 d1 d2 d3 d4
    have hl1 := box_lt e1
    have hl2 := box_lt e2
    clear ks hbx2 hby
    go_wp2_with fail
    refine same_mono k4 ?_
    go_wp2
    go_ret
    rw [HF.out]
    exact ⟨by simp, hb9⟩

set_option maxRecDepth 100000 in
set_option maxHeartbeats 3000000 in
theorem entriesFit_any (x : MsgV) (w : World) (hF : FitsM w x) (hi : 0 ≤ x.i) : Calls Tryz.prog 49 #[.agg x.arr] w fun e w' => e = .returned (.bool (entFit10 x.m)) ∧ Below w.heap.size w w' := by
  have hb1 : Below w.heap.size w (w.alloc (.cells x.arr 53)) := (Below.refl _ _).alloc (Nat.le_refl _) _
  have hbox : MsgAt (w.alloc (.cells x.arr 53)) w.heap.size x := heap_alloc_new w _
  have hbz := hb1.size
  have HX : Hid (∀ W, Below w.heap.size w W → HasE W x.w x.es) := fun W h => hF.es.below h
  have hi2 := hF.i.2
  have hlen := hF.len
  have hE := hF.es.n
  have hM : (x.es.map EntV.e).length = x.w.n := by rw [List.length_map]; exact hE
  have H5 : Hid (x.k ≠ 5 → entFit10 x.m = decide (x.w.n = 0)) := fun h => by
    unfold entFit10 MsgV.m
    dsimp only
    rw [if_neg h, Bool.eq_iff_iff, List.isEmpty_iff, decide_eq_true_eq, ← hM, List.length_eq_zero_iff]
  have HG : Hid (x.k = 5 → 16 < x.w.n → entFit10 x.m = false) := fun h h2 => by
    unfold entFit10 MsgV.m
    dsimp only
    rw [if_pos h, hM, decide_eq_false (by omega), Bool.false_and]
  have HA : Hid (x.k = 5 → ∀ j, j < x.w.n → okE10 x.i x.t j (x.es.getD j noEV).e = false → entFit10 x.m = false) := fun h j hj h2 => by
    unfold entFit10 MsgV.m
    dsimp only
    rw [if_pos h, hM, Bool.and_eq_false_iff]
    right
    rw [List.all_eq_false]
    exact ⟨j, List.mem_range.2 hj, by rw [mapE_getD, h2]; decide⟩
  have HT : Hid (x.k = 5 → x.w.n ≤ 16 → (∀ j, j < x.w.n → okE10 x.i x.t j (x.es.getD j noEV).e = true) → entFit10 x.m = true) := fun h h2 h3 => by
    unfold entFit10 MsgV.m
    dsimp only
    rw [if_pos h, hM, decide_eq_true h2, Bool.true_and, List.all_eq_true]
    exact fun j hj => by rw [mapE_getD]; exact h3 j (List.mem_range.1 hj)
  generalize entFit10 x.m = r at *
  clear hF hM hE
  obtain ⟨k, fr, too, t, i, lt, cm, ro, rej, hint, ⟨a, b, e⟩, es, ⟨si, st, ⟨⟨p, n, c⟩, ⟨q, m, d⟩, f⟩, ⟨a', b', e'⟩, dd⟩⟩ := x
  unfold MsgV.arr at *
  dsimp only at *
  by_cases hk : k = 5
  case neg =>
    have HR : Hid (r = decide (b = 0)) := H5.out hk
    have ek : (k == 5) = false := by simpa using hk
    clear H5 HG HA HT HX
    by_cases h0 : b = 0
    · subst h0
      go_enter Tryz.func49, Tryz.ntmps49
      go_wp2
      go_ret
      rw [HR.out]
      exact ⟨rfl, hb1⟩
    · have e0 : ((b : Int) == 0) = false := by simpa using h0
      go_enter Tryz.func49, Tryz.ntmps49
      go_wp2
      go_ret
      rw [HR.out, decide_eq_false h0]
      exact ⟨by simp, hb1⟩
  subst hk
  clear H5
  by_cases h16 : 16 < b
  · have HR : Hid (r = false) := HG.out rfl h16
    clear HG HA HT HX
    go_enter Tryz.func49, Tryz.ntmps49
    go_wp2
    go_ret
    rw [HR.out]
    exact ⟨rfl, hb1⟩
  replace HA : Hid (∀ j, j < b → okE10 i t j (es.getD j noEV).e = false → r = false) := HA.out rfl
  replace HT : Hid ((∀ j, j < b → okE10 i t j (es.getD j noEV).e = true) → r = true) := HT.out rfl (by omega)
  clear HG
  go_enter Tryz.func49, Tryz.ntmps49
  go_wp2
  generalize w.alloc (.cells #[.int .i64 5, .int .i64 fr, .int .i64 too, .int .i64 t, .int .i64 i, .int .i64 lt, .int .i64 cm, .int .i64 ro, .bool rej, .int .i64 hint, .slice a b e, .int .i64 si, .int .i64 st, .slice p n c, .slice q m d, .slice a' b' e'] 53) = W1 at *
  go_loopw [19] (fun s19 wr => ∃ j : Nat, j ≤ b ∧ s19 = .int .i64 (j : Nat) ∧ Hid (∀ i', i' < j → okE10 i t i' (es.getD i' noEV).e = true) ∧ Below W1.heap.size W1 wr) (fun s19 _ => b - (intOf s19).toNat)
  case atStart => exact ⟨0, Nat.zero_le _, rfl, (fun i hi => by omega), Below.refl _ _⟩
  case round =>
    obtain ⟨j, hj, rfl, hok, hb⟩ := hrel
    have hbw : Below w.heap.size w wr := hb1.trans (hb.mono hbz)
    have hbm : MsgAt wr w.heap.size ⟨5, fr, too, t, i, lt, cm, ro, rej, hint, ⟨a, b, e⟩, es, ⟨si, st, ⟨⟨p, n, c⟩, ⟨q, m, d⟩, f⟩, ⟨a', b', e'⟩, dd⟩⟩ := box_below hbox hb
    by_cases hlt : j < b
    · obtain ⟨bb, o, x, hp, hbl, Hx, -, hfit, g0, g1, g2, g3, g4, g5, g6, g7, g8, g9, g10, g11, g12⟩ := (HX.out wr hbw).at (j := j) hlt
      dsimp only at hp
      subst hp
      have hba : Below wr.heap.size wr (wr.alloc (.cells x.arr 30)) := (Below.refl _ _).alloc (Nat.le_refl _) _
      have hbn : EntAt (wr.alloc (.cells x.arr 30)) wr.heap.size x := heap_alloc_new wr _
      have hbm2 := box_below hbm hba
      have kg := goodE_any x _ (hfit.below hba)
      have HJ : Hid (okE10 i t j (es.getD j noEV).e = (goodE10 x.e && decide (x.i - i = (j : Int) + 1) && decide (x.t ≤ t))) := by rw [Hid, ← Hx]; rfl
      have HGi : Hid (goodE10 x.e = true → 1 ≤ x.i) := fun h => goodE10_i h
      have hxi := hfit.i.2
      have hB2 := hb.trans (hba.mono hb.size)
      have hbas := hba.size
      generalize goodE10 x.e = ge at *
      clear hfit Hx hbm hba
      obtain ⟨xi, xt, xk, ⟨ck, cs, cq, ckey, cold, cval, cunt, clim⟩, ⟨⟨p1, n1, c1⟩, ⟨q1, m1, d1⟩, f1⟩⟩ := x
      unfold EntV.arr at *
      dsimp only at *
      go_wp2_with fail
      generalize wr.alloc (.cells #[.int .i64 xi, .int .i64 xt, .int .i64 xk, .int .i64 ck, .int .i64 cs, .int .i64 cq, .string ckey, .string cold, .string cval, .string cunt, .int .i64 clim, .slice p1 n1 c1, .slice q1 m1 d1] 30) = W2 at *
      refine kg.mono ?_
      rintro e2 w3 ⟨rfl, hb3⟩
      have hB3 := hB2.trans (hb3.mono hB2.size)
      have hB9 : Below w.heap.size w w3 := hb1.trans (hB3.mono hbz)
      clear kg g0 g1 g2 g3 g4 g5 g6 g7 g8 g9 g10 g11 g12
      cases ge with
      | false =>
        have HR : Hid (r = false) := HA.out j hlt (by rw [HJ.out]; rfl)
        go_wp2
        go_ret
        rw [HR.out]
        exact ⟨rfl, hB9⟩
      | true =>
        have hx1 := HGi.out rfl
        have m3 : MsgAt w3 w.heap.size ⟨5, fr, too, t, i, lt, cm, ro, rej, hint, ⟨some ⟨bb, o, none⟩, b, e⟩, es, ⟨si, st, ⟨⟨p, n, c⟩, ⟨q, m, d⟩, f⟩, ⟨a', b', e'⟩, dd⟩⟩ := box_below hbm2 hb3
        have n3 : EntAt w3 wr.heap.size ⟨xi, xt, xk, ⟨ck, cs, cq, ckey, cold, cval, cunt, clim⟩, ⟨⟨p1, n1, c1⟩, ⟨q1, m1, d1⟩, f1⟩⟩ := box_below hbn hb3
        have c3 := box_cell m3 3
        have c4 := box_cell m3 4
        have d0 := box_cell n3 0
        have d1 := box_cell n3 1
        have hl1 := box_lt m3
        have hl2 := box_lt n3
        dsimp only [MsgV.arr, EntV.arr] at c3 c4 d0 d1
        by_cases ht : t < xt
        · have HR : Hid (r = false) := HA.out j hlt (by rw [HJ.out, decide_eq_false (p := xt ≤ t) (by omega)]; simp)
          go_wp2
          go_ret
          rw [HR.out]
          exact ⟨rfl, hB9⟩
        · by_cases hd : xi - i = (j : Int) + 1
          · have HOK : Hid (∀ i', i' < j + 1 → okE10 i t i' (es.getD i' noEV).e = true) := fun i' hi' => by
              by_cases e9 : i' = j
              · rw [e9, HJ.out, decide_eq_true hd, decide_eq_true (p := xt ≤ t) (by omega)]; rfl
              · exact hok.out i' (by omega)
            clear hok HJ
            go_wp2
            go_roundw
            case rel => exact ⟨j + 1, by omega, by go_num, HOK.out, hB3⟩
            case measure => simp only [intOf]; omega
          · have HR : Hid (r = false) := HA.out j hlt (by rw [HJ.out, decide_eq_false hd]; simp)
            have ed : (xi - i != (j : Int) + 1) = true := by simpa using hd
            clear hok HJ
            go_wp2
            go_ret
            rw [HR.out]
            exact ⟨rfl, hB9⟩
    · have HR : Hid (r = true) := HT.out fun j' hj' => hok.out j' (by omega)
      go_wp2
      go_ret
      rw [HR.out]
      exact ⟨rfl, hbw⟩

set_option maxRecDepth 100000 in
set_option maxHeartbeats 3000000 in
theorem snapFits_any (x : MsgV) (w : World) (hF : FitsM w x) : Calls Tryz.prog 50 #[.agg x.arr] w fun e w' => e = .returned (.bool (snFit10 x.m)) ∧ Below w.heap.size w w' := by
  have hb1 : Below w.heap.size w (w.alloc (.cells x.arr 53)) := (Below.refl _ _).alloc (Nat.le_refl _) _
  have hbz := hb1.size
  have kg := goodSnap_any x.sn _ (hF.sn.below hb1)
  have ks := sameSnap_any x.sn noSV _ (hF.sn.below hb1) (FitsS.nil _)
  have HR : Hid (snFit10 x.m = if x.k = 7 then goodS10 x.sn.s else sameS10 x.sn.s noSV.s) := rfl
  generalize goodS10 x.sn.s = r1 at *
  generalize sameS10 x.sn.s noSV.s = r2 at *
  generalize snFit10 x.m = r at *
  clear hF
  obtain ⟨k, fr, too, t, i, lt, cm, ro, rej, hint, ⟨a, b, e⟩, es, ⟨si, st, ⟨⟨p, n, c⟩, ⟨q, m, d⟩, f⟩, ⟨a', b', e'⟩, dd⟩⟩ := x
  unfold MsgV.arr at *
  unfold SnapV.arr at *
  dsimp only [noSV, noFV, nilS10] at *
  by_cases hk : k = 7
  · subst hk
    clear ks
    rw [if_pos rfl] at HR
    go_enter Tryz.func50, Tryz.ntmps50
    go_wp2_with fail
    refine kg.mono ?_
    rintro _ w3 ⟨rfl, hb3⟩
    go_wp2
    go_ret
    rw [HR.out]
    exact ⟨rfl, hb1.trans (hb3.mono hbz)⟩
  · have ek : (k == 7) = false := by simpa using hk
    clear kg
    rw [if_neg hk] at HR
    go_enter Tryz.func50, Tryz.ntmps50
    go_wp2_with fail
    refine ks.mono ?_
    rintro _ w3 ⟨rfl, hb3⟩
    go_wp2
    go_ret
    rw [HR.out]
    exact ⟨rfl, hb1.trans (hb3.mono hbz)⟩

set_option maxRecDepth 100000 in
set_option maxHeartbeats 4000000 in
theorem goodMsg_any (x : MsgV) (w : World) (hF : FitsM w x) : Calls Tryz.prog 17 #[.agg x.arr] w fun e w' => e = .returned (.bool (goodM10 x.m)) ∧ Below w.heap.size w w' := by
  have hb1 : Below w.heap.size w (w.alloc (.cells x.arr 53)) := (Below.refl _ _).alloc (Nat.le_refl _) _
  have hbox : MsgAt (w.alloc (.cells x.arr 53)) w.heap.size x := heap_alloc_new w _
  have hbz := hb1.size
  have k3 := isNode_any x.fr (w.alloc (.cells x.arr 53))
  have k4 := isNode_any x.to (w.alloc (.cells x.arr 53))
  have HK7 : Hid (0 ≤ x.i → Calls Tryz.prog 49 #[.agg x.arr] (w.alloc (.cells x.arr 53)) fun e w' => e = .returned (.bool (entFit10 x.m)) ∧ Below (w.alloc (.cells x.arr 53)).heap.size (w.alloc (.cells x.arr 53)) w') := fun h => entriesFit_any x _ (hF.below hb1) h
  have HK8 : Hid (∀ W, Below w.heap.size w W → Calls Tryz.prog 50 #[.agg x.arr] W fun e w' => e = .returned (.bool (snFit10 x.m)) ∧ Below W.heap.size W w') := fun W h => snapFits_any x W (hF.below h)
  have HG : Hid (goodM10 x.m = (decide (1 ≤ x.k) && decide (x.k ≤ 10) && isNode10 x.fr && isNode10 x.to && decide (1 ≤ x.t) && decide (0 ≤ min (min (min (min x.i x.lt) x.cm) x.ro) x.hint) && entFit10 x.m && snFit10 x.m)) := goodM10_is x.m
  have hm5 := fun ts t W => min5_run ts t x.i x.lt x.cm x.ro x.hint W
  have hmi : 0 ≤ min (min (min (min x.i x.lt) x.cm) x.ro) x.hint → 0 ≤ x.i := by omega
  generalize goodM10 x.m = r at *
  generalize entFit10 x.m = r7 at *
  generalize snFit10 x.m = r8 at *
  generalize isNode10 x.fr = r3 at *
  generalize isNode10 x.to = r4 at *
  generalize min (min (min (min x.i x.lt) x.cm) x.ro) x.hint = mm at *
  have HMI : Hid (0 ≤ mm → 0 ≤ x.i) := hmi
  clear hF hmi
  obtain ⟨k, fr, too, t, i, lt, cm, ro, rej, hint, ⟨a, b, e⟩, es, ⟨si, st, ⟨⟨p, n, c⟩, ⟨q, m, d⟩, f⟩, ⟨a', b', e'⟩, dd⟩⟩ := x
  unfold MsgV.arr at *
  dsimp only at *
  by_cases h1 : 1 ≤ k
  case neg =>
    have HF : Hid (r = false) := by rw [Hid, HG.out, decide_eq_false h1]; simp
    clear HG HK7 HK8 k3 k4
    go_enter Tryz.func17, Tryz.ntmps17
    go_wp2
    go_ret
    rw [HF.out]
    exact ⟨rfl, hb1⟩
  by_cases h2 : k ≤ 10
  case neg =>
    have HF : Hid (r = false) := by rw [Hid, HG.out, decide_eq_false h2]; simp
    clear HG HK7 HK8 k3 k4
    go_enter Tryz.func17, Tryz.ntmps17
    go_wp2
    go_ret
    rw [HF.out]
    exact ⟨rfl, hb1⟩
  cases r3 with
  | false =>
    have HF : Hid (r = false) := by rw [Hid, HG.out]; simp
    clear HG HK7 HK8
    go_enter Tryz.func17, Tryz.ntmps17
    go_wp2_with fail
    refine same_mono k3 ?_
    go_wp2
    go_ret
    rw [HF.out]
    exact ⟨rfl, hb1⟩
  | true =>
  cases r4 with
  | false =>
    have HF : Hid (r = false) := by rw [Hid, HG.out]; simp
    clear HG HK7 HK8
    go_enter Tryz.func17, Tryz.ntmps17
    go_wp2_with fail
    refine same_mono k3 ?_
    go_wp2_with fail
    refine same_mono k4 ?_
    go_wp2
    go_ret
    rw [HF.out]
    exact ⟨rfl, hb1⟩
  | true =>
  by_cases h5 : 1 ≤ t
  case neg =>
    have HF : Hid (r = false) := by rw [Hid, HG.out, decide_eq_false h5]; simp
    clear HG HK7 HK8
    go_enter Tryz.func17, Tryz.ntmps17
    go_wp2_with fail
    refine same_mono k3 ?_
    go_wp2_with fail
    refine same_mono k4 ?_
    go_wp2
    go_ret
    rw [HF.out]
    exact ⟨rfl, hb1⟩
  by_cases h6 : 0 ≤ mm
  case neg =>
    have HF : Hid (r = false) := by rw [Hid, HG.out, decide_eq_false h6]; simp
    clear HG HK7 HK8
    go_enter Tryz.func17, Tryz.ntmps17
    go_wp2_with fail
    refine same_mono k3 ?_
    go_wp2_with fail
    refine same_mono k4 ?_
    go_wp2
    go_ret
    rw [HF.out]
    exact ⟨rfl, hb1⟩
  have k7 := HK7.out (HMI.out h6)
  clear HK7 HMI
  have HF0 : Hid (r = (r7 && r8)) := by rw [Hid, HG.out, decide_eq_true h1, decide_eq_true h2, decide_eq_true h5, decide_eq_true h6]; simp
  clear HG
  cases r7 with
  | false =>
    have HF : Hid (r = false) := by rw [Hid, HF0.out]; rfl
    clear HF0 HK8
    go_enter Tryz.func17, Tryz.ntmps17
    go_wp2_with fail
    refine same_mono k3 ?_
    go_wp2_with fail
    refine same_mono k4 ?_
    go_wp2_with fail
    generalize w.alloc (.cells #[.int .i64 k, .int .i64 fr, .int .i64 too, .int .i64 t, .int .i64 i, .int .i64 lt, .int .i64 cm, .int .i64 ro, .bool rej, .int .i64 hint, .slice a b e, .int .i64 si, .int .i64 st, .slice p n c, .slice q m d, .slice a' b' e'] 53) = W1 at *
    refine k7.mono ?_
    rintro _ w7 ⟨rfl, hb7⟩
    have hb9 := hb1.trans (hb7.mono hbz)
    go_wp2
    go_ret
    rw [HF.out]
    exact ⟨rfl, hb9⟩
  | true =>
    have HF : Hid (r = r8) := by rw [Hid, HF0.out]; rfl
    clear HF0
    go_enter Tryz.func17, Tryz.ntmps17
    go_wp2_with fail
    refine same_mono k3 ?_
    go_wp2_with fail
    refine same_mono k4 ?_
    go_wp2_with fail
    generalize w.alloc (.cells #[.int .i64 k, .int .i64 fr, .int .i64 too, .int .i64 t, .int .i64 i, .int .i64 lt, .int .i64 cm, .int .i64 ro, .bool rej, .int .i64 hint, .slice a b e, .int .i64 si, .int .i64 st, .slice p n c, .slice q m d, .slice a' b' e'] 53) = W1 at *
    refine k7.mono ?_
    rintro _ w7 ⟨rfl, hb7⟩
    have hb9 := hb1.trans (hb7.mono hbz)
    have m7 : MsgAt w7 w.heap.size ⟨k, fr, too, t, i, lt, cm, ro, rej, hint, ⟨a, b, e⟩, es, ⟨si, st, ⟨⟨p, n, c⟩, ⟨q, m, d⟩, f⟩, ⟨a', b', e'⟩, dd⟩⟩ := box_below hbox hb7
    have c0 := box_cell m7 0
    have c1 := box_cell m7 1
    have c2 := box_cell m7 2
    have c3 := box_cell m7 3
    have c4 := box_cell m7 4
    have c5 := box_cell m7 5
    have c6 := box_cell m7 6
    have c7 := box_cell m7 7
    have c8 := box_cell m7 8
    have c9 := box_cell m7 9
    have c10 := box_cell m7 10
    have c11 := box_cell m7 11
    have c12 := box_cell m7 12
    have c13 := box_cell m7 13
    have c14 := box_cell m7 14
    have c15 := box_cell m7 15
    dsimp only [MsgV.arr] at c0 c1 c2 c3 c4 c5 c6 c7 c8 c9 c10 c11 c12 c13 c14 c15
    have hl7 := box_lt m7
    have k8 := HK8.out w7 hb9
    clear k7 hbox
    go_wp2_with fail
    refine k8.mono ?_
    rintro _ w8 ⟨rfl, hb8⟩
    have hbA := hb9.trans (hb8.mono hb9.size)
    go_wp2
    go_ret
    rw [HF.out]
    exact ⟨rfl, hbA⟩
end Go.Proofs.YtnbaoimjcaeeaaaGreat
