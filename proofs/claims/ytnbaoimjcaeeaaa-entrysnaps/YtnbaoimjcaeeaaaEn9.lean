/-
  Contracts: entry.GoodSnap, corbelref10.GoodSnap; what few of the statements of stage 10 tells.
-/
import Derived.Test.YtnbaoimjcaeeaaaEn6
import Derived.Test.YtnbaoimjcaeeaaaEn5
namespace Go.Proofs.Ytnbaoimjcaeeaaa
open Go.RowKit Go.Shelf

set_option maxRecDepth 100000 in
set_option maxHeartbeats 2000000 in
theorem goodSnap_any (x : SnapV) (w : World) (hF : FitsS w x) : Calls Try.prog 21 #[.agg x.arr] w fun e w' => e = .returned (.bool (goodS10 x.s)) ∧ Below w.heap.size w w' := by
  have hb1 : Below w.heap.size w (w.alloc (.cells x.arr 39)) := (Below.refl _ _).alloc (Nat.le_refl _) _
  have hbox : SnapAt (w.alloc (.cells x.arr 39)) w.heap.size x := heap_alloc_new w _
  have hbz := hb1.size
  have kf := goodConf_any x.f _ (hF.f.below hb1)
  have hn := hF.w.len.1
  have HG : Hid (goodS10 x.s = (decide (1 ≤ x.i) && decide (1 ≤ x.t) && goodF10 x.f.f && decide ((x.w.n : Int) ≤ 1048576))) := by
    rw [Hid, ← hn]
    unfold goodS10 SnapV.s
    dsimp only
    congr 1
    rw [decide_eq_decide]
    omega
  generalize goodF10 x.f.f = rf at *
  generalize goodS10 x.s = r at *
  clear hF hn
  obtain ⟨i, t, ⟨⟨p, n, c⟩, ⟨q, m, d⟩, f⟩, ⟨a, b, e⟩, dd⟩ := x
  unfold SnapV.arr at *
  unfold ConfV.arr at *
  dsimp only at *
  by_cases h1 : 1 ≤ i
  case neg =>
    have HF : Hid (r = false) := by rw [Hid, HG.out, decide_eq_false h1]; rfl
    clear HG kf
    go_enter Try.func21, Try.ntmps21
    go_wp2
    go_ret
    rw [HF.out]
    exact ⟨rfl, hb1⟩
  by_cases h2 : 1 ≤ t
  case neg =>
    have HF : Hid (r = false) := by rw [Hid, HG.out, decide_eq_false h2]; simp
    clear HG kf
    go_enter Try.func21, Try.ntmps21
    go_wp2
    go_ret
    rw [HF.out]
    exact ⟨rfl, hb1⟩
  have HF : Hid (r = (rf && decide ((b : Int) ≤ 1048576))) := by rw [Hid, HG.out, decide_eq_true h1, decide_eq_true h2]; rfl
  clear HG
  cases rf with
  | false =>
    go_enter Try.func21, Try.ntmps21
    go_wp2_with fail
    refine kf.mono ?_
    rintro e w3 ⟨rfl, hb3⟩
    have hb9 := hb1.trans (hb3.mono hbz)
    go_wp2
    go_ret
    rw [HF.out]
    exact ⟨rfl, hb9⟩
  | true =>
    go_enter Try.func21, Try.ntmps21
    go_wp2_with fail
    generalize w.alloc (.cells #[.int .i64 i, .int .i64 t, .slice p n c, .slice q m d, .slice a b e] 39) = W1 at *
    refine kf.mono ?_
    rintro e' w3 ⟨rfl, hb3⟩
    have hb9 := hb1.trans (hb3.mono hbz)
    have hbox3 : SnapAt w3 w.heap.size ⟨i, t, ⟨⟨p, n, c⟩, ⟨q, m, d⟩, f⟩, ⟨a, b, e⟩, dd⟩ := box_below hbox hb3
    obtain ⟨c0, c1, c2, c3, c4⟩ := hbox3.cells
    dsimp only at c0 c1 c2 c3 c4
    have hlt := box_lt hbox3
    clear hbox kf
    go_wp2
    go_ret
    rw [HF.out]
    exact ⟨rfl, hb9⟩

set_option maxRecDepth 100000 in
set_option maxHeartbeats 2000000 in
theorem rgoodSnap_any (x : SnapV) (w : World) (hF : FitsS w x) : Calls Try.prog 22 #[.agg x.arr] w fun e w' => e = .returned (.bool (goodS10 x.s)) ∧ Below w.heap.size w w' := by
  have hb1 : Below w.heap.size w (w.alloc (.cells x.arr 39)) := (Below.refl _ _).alloc (Nat.le_refl _) _
  have hbox : SnapAt (w.alloc (.cells x.arr 39)) w.heap.size x := heap_alloc_new w _
  have hbz := hb1.size
  have kf := rgoodConf_any x.f _ (hF.f.below hb1)
  have hn := hF.w.len.1
  have HG : Hid (goodS10 x.s = (decide (1 ≤ x.i) && decide (1 ≤ x.t) && goodF10 x.f.f && decide ((x.w.n : Int) ≤ 1048576))) := by
    rw [Hid, ← hn]
    unfold goodS10 SnapV.s
    dsimp only
    congr 1
    rw [decide_eq_decide]
    omega
  generalize goodF10 x.f.f = rf at *
  generalize goodS10 x.s = r at *
  clear hF hn
  obtain ⟨i, t, ⟨⟨p, n, c⟩, ⟨q, m, d⟩, f⟩, ⟨a, b, e⟩, dd⟩ := x
  unfold SnapV.arr at *
  unfold ConfV.arr at *
  dsimp only at *
  by_cases h1 : 1 ≤ i
  case neg =>
    have HF : Hid (r = false) := by rw [Hid, HG.out, decide_eq_false h1]; rfl
    clear HG kf
    go_enter Try.func22, Try.ntmps22
    go_wp2
    go_ret
    rw [HF.out]
    exact ⟨rfl, hb1⟩
  by_cases h2 : 1 ≤ t
  case neg =>
    have HF : Hid (r = false) := by rw [Hid, HG.out, decide_eq_false h2]; simp
    clear HG kf
    go_enter Try.func22, Try.ntmps22
    go_wp2
    go_ret
    rw [HF.out]
    exact ⟨rfl, hb1⟩
  have HF : Hid (r = (rf && decide ((b : Int) ≤ 1048576))) := by rw [Hid, HG.out, decide_eq_true h1, decide_eq_true h2]; rfl
  clear HG
  cases rf with
  | false =>
    go_enter Try.func22, Try.ntmps22
    go_wp2_with fail
    refine kf.mono ?_
    rintro e w3 ⟨rfl, hb3⟩
    have hb9 := hb1.trans (hb3.mono hbz)
    go_wp2
    go_ret
    rw [HF.out]
    exact ⟨rfl, hb9⟩
  | true =>
    go_enter Try.func22, Try.ntmps22
    go_wp2_with fail
    generalize w.alloc (.cells #[.int .i64 i, .int .i64 t, .slice p n c, .slice q m d, .slice a b e] 39) = W1 at *
    refine kf.mono ?_
    rintro e' w3 ⟨rfl, hb3⟩
    have hb9 := hb1.trans (hb3.mono hbz)
    have hbox3 : SnapAt w3 w.heap.size ⟨i, t, ⟨⟨p, n, c⟩, ⟨q, m, d⟩, f⟩, ⟨a, b, e⟩, dd⟩ := box_below hbox hb3
    obtain ⟨c0, c1, c2, c3, c4⟩ := hbox3.cells
    dsimp only at c0 c1 c2 c3 c4
    have hlt := box_lt hbox3
    clear hbox kf
    go_wp2
    go_ret
    rw [HF.out]
    exact ⟨rfl, hb9⟩

/-- An entry of a row of entries. -/
theorem HasE.at {W : World} {s : Sl10} {es : List EntV} (h : HasE W s es) {j : Nat} (hj : j < s.n) : ∃ b o x, s.p = some ⟨b, o, none⟩ ∧ b < W.heap.size ∧ x = es.getD j noEV ∧ x ∈ es ∧ FitsE W x ∧ W.cell? ⟨b, o + j * 13, none⟩ = some (.int .i64 x.i) ∧ W.cell? ⟨b, o + j * 13 + 1, none⟩ = some (.int .i64 x.t) ∧ W.cell? ⟨b, o + j * 13 + 2, none⟩ = some (.int .i64 x.k) ∧ W.cell? ⟨b, o + j * 13 + 3, none⟩ = some (.int .i64 x.c.k) ∧ W.cell? ⟨b, o + j * 13 + 4, none⟩ = some (.int .i64 x.c.s) ∧ W.cell? ⟨b, o + j * 13 + 5, none⟩ = some (.int .i64 x.c.q) ∧ W.cell? ⟨b, o + j * 13 + 6, none⟩ = some (.string x.c.key) ∧ W.cell? ⟨b, o + j * 13 + 7, none⟩ = some (.string x.c.old) ∧ W.cell? ⟨b, o + j * 13 + 8, none⟩ = some (.string x.c.val) ∧ W.cell? ⟨b, o + j * 13 + 9, none⟩ = some (.string x.c.unt) ∧ W.cell? ⟨b, o + j * 13 + 10, none⟩ = some (.int .i64 x.c.lim) ∧ W.cell? ⟨b, o + j * 13 + 11, none⟩ = some (.slice x.f.u.p x.f.u.n x.f.u.c) ∧ W.cell? ⟨b, o + j * 13 + 12, none⟩ = some (.slice x.f.v.p x.f.v.n x.f.v.c) := by
  obtain ⟨b, o, hp, hb, hc⟩ := h.at' (by omega)
  have hjl : j < es.length := by rw [h.n]; exact hj
  have hm : es.getD j noEV ∈ es := by
    rw [List.getD_eq_getElem?_getD, List.getElem?_eq_getElem hjl]
    exact List.getElem_mem hjl
  exact ⟨b, o, es.getD j noEV, hp, hb, rfl, hm, h.all _ hm, hc j hj 0 (by omega), hc j hj 1 (by omega), hc j hj 2 (by omega), hc j hj 3 (by omega), hc j hj 4 (by omega), hc j hj 5 (by omega), hc j hj 6 (by omega), hc j hj 7 (by omega), hc j hj 8 (by omega), hc j hj 9 (by omega), hc j hj 10 (by omega), hc j hj 11 (by omega), hc j hj 12 (by omega)⟩

/-- What is looked at of a message. -/
structure FewM (x : MsgV) : Prop where
  es : x.es.length ≤ 400
  each : ∀ e ∈ x.es, weightE e.e ≤ 400
  d : x.sn.d.length ≤ 20049
  vs : x.sn.f.f.vs.length ≤ 400
  ls : x.sn.f.f.ls.length ≤ 400


set_option maxRecDepth 100000 in
set_option maxHeartbeats 3000000 in
theorem few10_any (x : MsgV) (w : World) (hF : FitsM w x) : Calls Try.prog 20 #[.agg x.arr] w fun e w' => ∃ r : Bool, e = .returned (.bool r) ∧ (r = true → FewM x) ∧ Below w.heap.size w w' := by
  have hb1 : Below w.heap.size w (w.alloc (.cells x.arr 45)) := (Below.refl _ _).alloc (Nat.le_refl _) _
  have hbox : MsgAt (w.alloc (.cells x.arr 45)) w.heap.size x := heap_alloc_new w _
  have hbz := hb1.size
  have hd := hF.sn.w.len.1
  have hn := hF.sn.f.u.len.1
  have hm := hF.sn.f.v.len.1
  have ld := hF.sn.l
  have ln := hF.sn.f.lu
  have lm := hF.sn.f.lv
  have he := hF.es.n
  have hlen := hF.len
  rw [hd] at ld
  rw [hn] at ln
  rw [hm] at lm
  obtain ⟨Q, hQ⟩ : ∃ Q : Nat, x.sn.w.n / 50 = Q := ⟨_, rfl⟩
  have hq : (x.sn.w.n : Int).tdiv 50 = (Q : Int) := by
    rw [Int.tdiv_eq_ediv_of_nonneg (by omega)]
    omega
  have hQ2 : Q ≤ 2814749767107 := by omega
  have HD : Hid (x.sn.w.n / 50 = Q) := hQ
  have HX : Hid (∀ W, Below w.heap.size w W → HasE W x.w x.es) := fun W h => hF.es.below h
  have HE : Hid (x.es.length = x.w.n) := he
  have HF : Hid (∀ N : Nat, Q + x.sn.f.u.n + x.sn.f.v.n + x.w.n ≤ N → (∀ i, i < x.w.n → weightE (x.es.getD i noEV).e ≤ N) → N ≤ 400 → FewM x) := fun N h1 h2 h3 => by
    refine ⟨by omega, fun e hme => ?_, by omega, by omega, by omega⟩
    obtain ⟨i, hi, rfl⟩ := List.getElem_of_mem hme
    have := h2 i (by omega)
    rw [List.getD_eq_getElem?_getD, List.getElem?_eq_getElem hi] at this
    exact Nat.le_trans this h3
  clear hF hd hn hm he hQ
  generalize FewM x = FM at *
  obtain ⟨k, fr, to, t, i, lt, cm, ro, rej, hint, ⟨a, b, e⟩, es, ⟨si, st, ⟨⟨p, n, c⟩, ⟨q, m, d⟩, f⟩, ⟨a', b', e'⟩, dd⟩⟩ := x
  unfold MsgV.arr at *
  dsimp only at *
  go_enter Try.func20, Try.ntmps20
  go_wp2
  generalize w.alloc (.cells #[.int .i64 k, .int .i64 fr, .int .i64 to, .int .i64 t, .int .i64 i, .int .i64 lt, .int .i64 cm, .int .i64 ro, .bool rej, .int .i64 hint, .slice a b e, .int .i64 si, .int .i64 st, .slice p n c, .slice q m d, .slice a' b' e'] 45) = W1 at *
  clear hbox
  go_loopw [3, 26] (fun s3 s26 wr => ∃ (j N : Nat), j ≤ b ∧ s26 = .int .i64 (j : Nat) ∧ s3 = .int .i64 (N : Nat) ∧ N ≤ 70368744177664 ∧ (Q + n + m + j ≤ N) ∧ Hid (∀ i, i < j → weightE (es.getD i noEV).e ≤ N) ∧ Below w.heap.size w wr) (fun _ s26 _ => b - (intOf s26).toNat)
  case atStart => exact ⟨0, Q + n + m, Nat.zero_le _, rfl, rfl, by omega, by omega, (fun i hi => by omega), hb1⟩
  case round =>
    obtain ⟨j, N, hj, rfl, rfl, hN, hQN, hok, hb⟩ := hrel
    by_cases hlt : j < b
    · obtain ⟨bb, o, x, hp, hbl, Hx, -, hfit, g0, g1, g2, g3, g4, g5, g6, g7, g8, g9, g10, g11, g12⟩ := (HX.out wr hb).at (j := j) hlt
      dsimp only at hp
      subst hp
      have HXj : Hid (weightE x.e = weightE (es.getD j noEV).e) := by rw [Hid, ← Hx]
      have hba : Below wr.heap.size wr (wr.alloc (.cells x.arr 28)) := (Below.refl _ _).alloc (Nat.le_refl _) _
      have kw := weight_any x _ (hfit.below hba)
      have hwb : 1 ≤ weightE x.e ∧ weightE x.e ≤ 70368744177664 := by
        obtain ⟨s1, s2, s3, s4, -⟩ := hfit.c
        have := hfit.f.lu
        have := hfit.f.lv
        unfold weightE EntV.e
        dsimp only
        omega
      have hbw := hba.size
      generalize weightE x.e = wx at *
      clear hfit Hx
      obtain ⟨xi, xt, xk, ⟨ck, cs, cq, ckey, cold, cval, cunt, clim⟩, ⟨⟨p1, n1, c1⟩, ⟨q1, m1, d1⟩, f1⟩⟩ := x
      unfold EntV.arr at *
      dsimp only at *
      go_wp2_with fail
      generalize wr.alloc (.cells #[.int .i64 xi, .int .i64 xt, .int .i64 xk, .int .i64 ck, .int .i64 cs, .int .i64 cq, .string ckey, .string cold, .string cval, .string cunt, .int .i64 clim, .slice p1 n1 c1, .slice q1 m1 d1] 28) = W2 at *
      refine kw.mono ?_
      rintro e2 w3 ⟨rfl, hb3⟩
      have hB3 := hb.trans ((hba.trans (hb3.mono hbw)).mono hb.size)
      have HOK : Hid (∀ i, i < j + 1 → weightE (es.getD i noEV).e ≤ N + wx) := fun i hi => by
        by_cases e : i = j
        · rw [e, ← HXj.out]; omega
        · have := hok.out i (by omega)
          omega
      clear kw g0 g1 g2 g3 g4 g5 g6 g7 g8 g9 g10 g11 g12 hok
      by_cases hbig : 400 < N + wx
      · have hbig' : (400 : Int) < (N : Int) + (wx : Int) := by omega
        go_wp2
        go_ret
        exact ⟨false, rfl, (fun h => by cases h), hB3⟩
      · have hbig' : ¬ (400 : Int) < (N : Int) + (wx : Int) := by omega
        go_wp2
        go_roundw
        case rel => exact ⟨j + 1, N + wx, by omega, by go_num, rfl, by omega, by omega, HOK.out, hB3⟩
        case measure => simp only [intOf]; omega
    · have HD2 : Hid (N ≤ 400 → FM) := HF.out N (by omega) fun i hi => hok.out i (by omega)
      go_wp2
      go_ret
      exact ⟨_, rfl, (fun h => HD2.out (by have := of_decide_eq_true h; omega)), hb⟩
end Go.Proofs.Ytnbaoimjcaeeaaa
