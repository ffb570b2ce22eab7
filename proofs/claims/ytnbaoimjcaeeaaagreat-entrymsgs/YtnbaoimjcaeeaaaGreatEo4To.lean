import Derived.Test.YtnbaoimjcaeeaaaGreatEo3To
import Derived.Test.YtnbaoimjcaeeaaaGreatEn5To
import Derived.Deep.RegionLaw
/-
  Contracts: entry.GoodSnap, corbelref10.GoodSnap; what few of the statements of stage 10 tells.
-/
namespace Go.Proofs.YtnbaoimjcaeeaaaGreat
open Go.RowKit Go.Shelf

set_option maxRecDepth 100000 in
set_option maxHeartbeats 2000000 in
theorem goodSnap_any (x : SnapV) (w : World) (hF : FitsS w x) : Calls Tryz.prog 39 #[.agg x.arr] w fun e w' => e = .returned (.bool (goodS10 x.s)) ∧ Below w.heap.size w w' := by
  have hb1 : Below w.heap.size w (w.alloc (.cells x.arr 43)) := (Below.refl _ _).alloc (Nat.le_refl _) _
  have hbox : SnapAt (w.alloc (.cells x.arr 43)) w.heap.size x := heap_alloc_new w _
  have hbz := hb1.size
  have kf := goodConf_any x.f _ (hF.f.below hb1)
  have hn := hF.w.len.1
  have HG : Hid (goodS10 x.s = (decide (1 ≤ x.i) && decide (1 ≤ x.t) && goodF10 x.f.f && decide ((x.w.n : Int) ≤ 1048576))) := by
    rw [Hid, ← hn]
    unfold goodS10 SnapV.s
    dsimp only
    congr 1
    rw [decide_eq_decide]
    omega
  generalize goodF10 x.f.f = rf at *
  generalize goodS10 x.s = r at *
  clear hF hn
  obtain ⟨i, t, ⟨⟨p, n, c⟩, ⟨q, m, d⟩, f⟩, ⟨a, b, e⟩, dd⟩ := x
  unfold SnapV.arr at *
  unfold ConfV.arr at *
  dsimp only at *
  by_cases h1 : 1 ≤ i
  case neg =>
    have HF : Hid (r = false) := by rw [Hid, HG.out, decide_eq_false h1]; rfl
    clear HG kf
    go_enter Tryz.func39, Tryz.ntmps39
    go_wp2
    go_ret
    rw [HF.out]
    exact ⟨rfl, hb1⟩
  by_cases h2 : 1 ≤ t
  case neg =>
    have HF : Hid (r = false) := by rw [Hid, HG.out, decide_eq_false h2]; simp
    clear HG kf
    go_enter Tryz.func39, Tryz.ntmps39
    go_wp2
    go_ret
    rw [HF.out]
    exact ⟨rfl, hb1⟩
  have HF : Hid (r = (rf && decide ((b : Int) ≤ 1048576))) := by rw [Hid, HG.out, decide_eq_true h1, decide_eq_true h2]; rfl
  clear HG
  cases rf with
  | false =>
    go_enter Tryz.func39, Tryz.ntmps39
    go_wp2_with fail
    refine kf.mono ?_
    rintro e w3 ⟨rfl, hb3⟩
    have hb9 := hb1.trans (hb3.mono hbz)
    go_wp2
    go_ret
    rw [HF.out]
    exact ⟨rfl, hb9⟩
  | true =>
    go_enter Tryz.func39, Tryz.ntmps39
    go_wp2_with fail
    generalize w.alloc (.cells #[.int .i64 i, .int .i64 t, .slice p n c, .slice q m d, .slice a b e] 43) = W1 at *
    refine kf.mono ?_
    rintro e' w3 ⟨rfl, hb3⟩
    have hb9 := hb1.trans (hb3.mono hbz)
    have hbox3 : SnapAt w3 w.heap.size ⟨i, t, ⟨⟨p, n, c⟩, ⟨q, m, d⟩, f⟩, ⟨a, b, e⟩, dd⟩ := box_below hbox hb3
    obtain ⟨c0, c1, c2, c3, c4⟩ := hbox3.cells
    dsimp only at c0 c1 c2 c3 c4
    have hlt := box_lt hbox3
    clear hbox kf
    go_wp2
    go_ret
    rw [HF.out]
    exact ⟨rfl, hb9⟩

set_option maxRecDepth 100000 in
set_option maxHeartbeats 2000000 in
theorem rgoodSnap_any (x : SnapV) (w : World) (hF : FitsS w x) : Calls Tryz.prog 41 #[.agg x.arr] w fun e w' => e = .returned (.bool (goodS10 x.s)) ∧ Below w.heap.size w w' := by
  have hb1 : Below w.heap.size w (w.alloc (.cells x.arr 43)) := (Below.refl _ _).alloc (Nat.le_refl _) _
  have hbox : SnapAt (w.alloc (.cells x.arr 43)) w.heap.size x := heap_alloc_new w _
  have hbz := hb1.size
  have kf := rgoodConf_any x.f _ (hF.f.below hb1)
  have hn := hF.w.len.1
  have HG : Hid (goodS10 x.s = (decide (1 ≤ x.i) && decide (1 ≤ x.t) && goodF10 x.f.f && decide ((x.w.n : Int) ≤ 1048576))) := by
    rw [Hid, ← hn]
    unfold goodS10 SnapV.s
    dsimp only
    congr 1
    rw [decide_eq_decide]
    omega
  generalize goodF10 x.f.f = rf at *
  generalize goodS10 x.s = r at *
  clear hF hn
  obtain ⟨i, t, ⟨⟨p, n, c⟩, ⟨q, m, d⟩, f⟩, ⟨a, b, e⟩, dd⟩ := x
  unfold SnapV.arr at *
  unfold ConfV.arr at *
  dsimp only at *
  by_cases h1 : 1 ≤ i
  case neg =>
    have HF : Hid (r = false) := by rw [Hid, HG.out, decide_eq_false h1]; rfl
    clear HG kf
    go_enter Tryz.func41, Tryz.ntmps41
    go_wp2
    go_ret
    rw [HF.out]
    exact ⟨rfl, hb1⟩
  by_cases h2 : 1 ≤ t
  case neg =>
    have HF : Hid (r = false) := by rw [Hid, HG.out, decide_eq_false h2]; simp
    clear HG kf
    go_enter Tryz.func41, Tryz.ntmps41
    go_wp2
    go_ret
    rw [HF.out]
    exact ⟨rfl, hb1⟩
  have HF : Hid (r = (rf && decide ((b : Int) ≤ 1048576))) := by rw [Hid, HG.out, decide_eq_true h1, decide_eq_true h2]; rfl
  clear HG
  cases rf with
  | false =>
    go_enter Tryz.func41, Tryz.ntmps41
    go_wp2_with fail
    refine kf.mono ?_
    rintro e w3 ⟨rfl, hb3⟩
    have hb9 := hb1.trans (hb3.mono hbz)
    go_wp2
    go_ret
    rw [HF.out]
    exact ⟨rfl, hb9⟩
  | true =>
    go_enter Tryz.func41, Tryz.ntmps41
    go_wp2_with fail
    generalize w.alloc (.cells #[.int .i64 i, .int .i64 t, .slice p n c, .slice q m d, .slice a b e] 43) = W1 at *
    refine kf.mono ?_
    rintro e' w3 ⟨rfl, hb3⟩
    have hb9 := hb1.trans (hb3.mono hbz)
    have hbox3 : SnapAt w3 w.heap.size ⟨i, t, ⟨⟨p, n, c⟩, ⟨q, m, d⟩, f⟩, ⟨a, b, e⟩, dd⟩ := box_below hbox hb3
    obtain ⟨c0, c1, c2, c3, c4⟩ := hbox3.cells
    dsimp only at c0 c1 c2 c3 c4
    have hlt := box_lt hbox3
    clear hbox kf
    go_wp2
    go_ret
    rw [HF.out]
    exact ⟨rfl, hb9⟩

/-- An entry of a row of entries. -/
theorem HasE.at {W : World} {s : Sl10} {es : List EntV} (h : HasE W s es) {j : Nat} (hj : j < s.n) : ∃ b o x, s.p = some ⟨b, o, none⟩ ∧ b < W.heap.size ∧ x = es.getD j noEV ∧ x ∈ es ∧ FitsE W x ∧ W.cell? ⟨b, o + j * 13, none⟩ = some (.int .i64 x.i) ∧ W.cell? ⟨b, o + j * 13 + 1, none⟩ = some (.int .i64 x.t) ∧ W.cell? ⟨b, o + j * 13 + 2, none⟩ = some (.int .i64 x.k) ∧ W.cell? ⟨b, o + j * 13 + 3, none⟩ = some (.int .i64 x.c.k) ∧ W.cell? ⟨b, o + j * 13 + 4, none⟩ = some (.int .i64 x.c.s) ∧ W.cell? ⟨b, o + j * 13 + 5, none⟩ = some (.int .i64 x.c.q) ∧ W.cell? ⟨b, o + j * 13 + 6, none⟩ = some (.string x.c.key) ∧ W.cell? ⟨b, o + j * 13 + 7, none⟩ = some (.string x.c.old) ∧ W.cell? ⟨b, o + j * 13 + 8, none⟩ = some (.string x.c.val) ∧ W.cell? ⟨b, o + j * 13 + 9, none⟩ = some (.string x.c.unt) ∧ W.cell? ⟨b, o + j * 13 + 10, none⟩ = some (.int .i64 x.c.lim) ∧ W.cell? ⟨b, o + j * 13 + 11, none⟩ = some (.slice x.f.u.p x.f.u.n x.f.u.c) ∧ W.cell? ⟨b, o + j * 13 + 12, none⟩ = some (.slice x.f.v.p x.f.v.n x.f.v.c) := by
  obtain ⟨b, o, hp, hb, hc⟩ := h.at' (by omega)
  have hjl : j < es.length := by rw [h.n]; exact hj
  have hm : es.getD j noEV ∈ es := by
    rw [List.getD_eq_getElem?_getD, List.getElem?_eq_getElem hjl]
    exact List.getElem_mem hjl
  exact ⟨b, o, es.getD j noEV, hp, hb, rfl, hm, h.all _ hm, hc j hj 0 (by omega), hc j hj 1 (by omega), hc j hj 2 (by omega), hc j hj 3 (by omega), hc j hj 4 (by omega), hc j hj 5 (by omega), hc j hj 6 (by omega), hc j hj 7 (by omega), hc j hj 8 (by omega), hc j hj 9 (by omega), hc j hj 10 (by omega), hc j hj 11 (by omega), hc j hj 12 (by omega)⟩

/-- What is looked at of a message. -/
structure FewM (x : MsgV) : Prop where
  es : x.es.length ≤ 400
  each : ∀ e ∈ x.es, weightE e.e ≤ 400
  d : x.sn.d.length ≤ 20049
  vs : x.sn.f.f.vs.length ≤ 400
  ls : x.sn.f.f.ls.length ≤ 400


set_option maxRecDepth 100000 in
set_option maxHeartbeats 3000000 in
theorem few10_any (x : MsgV) (w : World) (hF : FitsM w x) : Calls Tryz.prog 14 #[.agg x.arr] w fun e w' => ∃ r : Bool, e = .returned (.bool r) ∧ (r = true → FewM x) ∧ Below w.heap.size w w' := by
  have hb1 : Below w.heap.size w (w.alloc (.cells x.arr 53)) := (Below.refl _ _).alloc (Nat.le_refl _) _
  have hbox : MsgAt (w.alloc (.cells x.arr 53)) w.heap.size x := heap_alloc_new w _
  have hbz := hb1.size
  have hd := hF.sn.w.len.1
  have hn := hF.sn.f.u.len.1
  have hm := hF.sn.f.v.len.1
  have ld := hF.sn.l
  have ln := hF.sn.f.lu
  have lm := hF.sn.f.lv
  have he := hF.es.n
  have hlen := hF.len
  rw [hd] at ld
  rw [hn] at ln
  rw [hm] at lm
  obtain ⟨Q, hQ⟩ : ∃ Q : Nat, x.sn.w.n / 50 = Q := ⟨_, rfl⟩
  have hq : (x.sn.w.n : Int).tdiv 50 = (Q : Int) := by
    rw [Int.tdiv_eq_ediv_of_nonneg (by omega)]
    omega
  have hQ2 : Q ≤ 2814749767107 := by omega
  have HD : Hid (x.sn.w.n / 50 = Q) := hQ
  have HX : Hid (∀ W, Below w.heap.size w W → HasE W x.w x.es) := fun W h => hF.es.below h
  have HE : Hid (x.es.length = x.w.n) := he
  have HF : Hid (∀ N : Nat, Q + x.sn.f.u.n + x.sn.f.v.n + x.w.n ≤ N → (∀ i, i < x.w.n → weightE (x.es.getD i noEV).e ≤ N) → N ≤ 400 → FewM x) := fun N h1 h2 h3 => by
    refine ⟨by omega, fun e hme => ?_, by omega, by omega, by omega⟩
    obtain ⟨i, hi, rfl⟩ := List.getElem_of_mem hme
    have := h2 i (by omega)
    rw [List.getD_eq_getElem?_getD, List.getElem?_eq_getElem hi] at this
    exact Nat.le_trans this h3
  clear hF hd hn hm he hQ
  generalize FewM x = FM at *
  obtain ⟨k, fr, too, t, i, lt, cm, ro, rej, hint, ⟨a, b, e⟩, es, ⟨si, st, ⟨⟨p, n, c⟩, ⟨q, m, d⟩, f⟩, ⟨a', b', e'⟩, dd⟩⟩ := x
  unfold MsgV.arr at *
  dsimp only at *
  go_enter Tryz.func14, Tryz.ntmps14
  go_wp2
  generalize w.alloc (.cells #[.int .i64 k, .int .i64 fr, .int .i64 too, .int .i64 t, .int .i64 i, .int .i64 lt, .int .i64 cm, .int .i64 ro, .bool rej, .int .i64 hint, .slice a b e, .int .i64 si, .int .i64 st, .slice p n c, .slice q m d, .slice a' b' e'] 53) = W1 at *
  clear hbox
  go_loopw [3, 26] (fun s3 s26 wr => ∃ (j N : Nat), j ≤ b ∧ s26 = .int .i64 (j : Nat) ∧ s3 = .int .i64 (N : Nat) ∧ N ≤ 70368744177664 ∧ (Q + n + m + j ≤ N) ∧ Hid (∀ i, i < j → weightE (es.getD i noEV).e ≤ N) ∧ Below w.heap.size w wr) (fun _ s26 _ => b - (intOf s26).toNat)
  case atStart => exact ⟨0, Q + n + m, Nat.zero_le _, rfl, rfl, by omega, by omega, (fun i hi => by omega), hb1⟩
  case round =>
    obtain ⟨j, N, hj, rfl, rfl, hN, hQN, hok, hb⟩ := hrel
    by_cases hlt : j < b
    · obtain ⟨bb, o, x, hp, hbl, Hx, -, hfit, g0, g1, g2, g3, g4, g5, g6, g7, g8, g9, g10, g11, g12⟩ := (HX.out wr hb).at (j := j) hlt
      dsimp only at hp
      subst hp
      have HXj : Hid (weightE x.e = weightE (es.getD j noEV).e) := by rw [Hid, ← Hx]
      have hba : Below wr.heap.size wr (wr.alloc (.cells x.arr 30)) := (Below.refl _ _).alloc (Nat.le_refl _) _
      have kw := weight_any x _ (hfit.below hba)
      have hwb : 1 ≤ weightE x.e ∧ weightE x.e ≤ 70368744177664 := by
        obtain ⟨s1, s2, s3, s4, -⟩ := hfit.c
        have := hfit.f.lu
        have := hfit.f.lv
        unfold weightE EntV.e
        dsimp only
        omega
      have hbw := hba.size
      generalize weightE x.e = wx at *
      clear hfit Hx
      obtain ⟨xi, xt, xk, ⟨ck, cs, cq, ckey, cold, cval, cunt, clim⟩, ⟨⟨p1, n1, c1⟩, ⟨q1, m1, d1⟩, f1⟩⟩ := x
      unfold EntV.arr at *
      dsimp only at *
      go_wp2_with fail
      generalize wr.alloc (.cells #[.int .i64 xi, .int .i64 xt, .int .i64 xk, .int .i64 ck, .int .i64 cs, .int .i64 cq, .string ckey, .string cold, .string cval, .string cunt, .int .i64 clim, .slice p1 n1 c1, .slice q1 m1 d1] 30) = W2 at *
      refine kw.mono ?_
      rintro e2 w3 ⟨rfl, hb3⟩
      have hB3 := hb.trans ((hba.trans (hb3.mono hbw)).mono hb.size)
      have HOK : Hid (∀ i, i < j + 1 → weightE (es.getD i noEV).e ≤ N + wx) := fun i hi => by
        by_cases e : i = j
        · rw [e, ← HXj.out]; omega
        · have := hok.out i (by omega)
          omega
      clear kw g0 g1 g2 g3 g4 g5 g6 g7 g8 g9 g10 g11 g12 hok
      by_cases hbig : 400 < N + wx
      · have hbig' : (400 : Int) < (N : Int) + (wx : Int) := by omega
        go_wp2
        go_ret
        exact ⟨false, rfl, (fun h => by cases h), hB3⟩
      · have hbig' : ¬ (400 : Int) < (N : Int) + (wx : Int) := by omega
        go_wp2
        go_roundw
        case rel => exact ⟨j + 1, N + wx, by omega, by go_num, rfl, by omega, by omega, HOK.out, hB3⟩
        case measure => simp only [intOf]; omega
    · have HD2 : Hid (N ≤ 400 → FM) := HF.out N (by omega) fun i hi => hok.out i (by omega)
      go_wp2
      go_ret
      exact ⟨_, rfl, (fun h => HD2.out (by have := of_decide_eq_true h; omega)), hb⟩
end Go.Proofs.YtnbaoimjcaeeaaaGreat

/-
  Contracts: what reads of entry tell: snap, goodHard; a reader made of bytes.
-/
namespace Go.Proofs.YtnbaoimjcaeeaaaGreat
open Go.RowKit Go.Shelf

/-- 'append(s, x...)', x a string, as a step of a region that draws its order. -/
theorem step_text {P : Program} {ops : Array Oper} {o : Oper} {a : Act} {K : Act → World → Prop} {Q : Exit → Act → World → Prop} {E : Prop} (w : World) (hgd : o.guard = none) (s x : Operand) (t u : TypeId)
    (ho : o.op = .call { callee := .builtin .append, args := #[s, x], argTypes := #[t, u] })
    (B : Nat) (e : TypeId) (i : TypeInfo) (ht : P.underlying t = some (.slice e)) (hu : P.underlying u = some .string) (hi : P.info? e = some i) (hz : i.zero = some (.int .u8 0)) (hsize : i.size = 1) (hby : i.bytes = 1)
    (v : Value) (xs : List Int) (str : ByteArray) (hs : a.eval s = v) (hx : a.eval x = .string str) (hown : Owns w B e v xs) (hlen : xs.length ≤ 1099511627776) (hlen2 : str.size ≤ 1099511627776) (hB : B ≤ w.heap.size)
    (h : ∀ v' w', Owns w' B e v' (xs ++ strB str) → w.grownBy w' v.ownBlock → K (a.put o.dst v') w') :
    if Region.wanted o (yielded ops a.tmps) = true then Oper.wp P o a w K Q else E := by
  have hw : Region.wanted o (yielded ops a.tmps) = true := by simp [Region.wanted, hgd]
  rw [if_pos hw]
  obtain ⟨v', w', hr, h2, h3, -⟩ := Lib.run_append_own_string (P := P) w B t u o.type e i ht hu hi hz hsize hby v xs.length (cellsB xs) hown str (by unfold maxLen; omega) (by omega) hB
  unfold Oper.wp execOp
  simp only [ho, resolve, invoke, builtin, Sem.run_bind, Sem.run_pure, Result.andThen_ok, List.map_toArray, List.map_cons, List.map_nil, hs, hx, hr]
  refine h v' w' ?_ h3
  unfold Owns
  have e1 : (xs ++ strB str).length = xs.length + str.size := by rw [List.length_append, strB_length]
  have e2 : cellsB (xs ++ strB str) = cellsB xs ++ Lib.strCells str := by simp [cellsB, Lib.strCells, strB]
  rw [e1, e2]
  exact h2

theorem SnapAt.put {w : World} {b : Nat} {x x' : SnapV} (h : SnapAt w b x) (i : Nat) (v : Value) (hi : i < 5) (hc : x'.arr = x.arr.set i v (by show i < 5; exact hi)) : SnapAt (w.setCell ⟨b, i, none⟩ v) b x' := by
  unfold SnapAt
  rw [hc]
  exact set_block9 h i v _
theorem fillS {w : World} {b : Nat} {x0 : SnapV} (h : SnapAt w b x0) (si : Int) (st : Int) (p : Option Addr) (n : Nat) (c : Nat) (q : Option Addr) (m : Nat) (d : Nat) (a : Option Addr) (b0 : Nat) (e0 : Nat) (f : Conf10) (dd : List Int) : SnapAt (((((w.setCell ⟨b, 0, none⟩ (.int .i64 si)).setCell ⟨b, 1, none⟩ (.int .i64 st)).setCell ⟨b, 2, none⟩ (.slice p n c)).setCell ⟨b, 3, none⟩ (.slice q m d)).setCell ⟨b, 4, none⟩ (.slice a b0 e0)) b ⟨si, st, ⟨⟨p, n, c⟩, ⟨q, m, d⟩, f⟩, ⟨a, b0, e0⟩, dd⟩ := by
  obtain ⟨si0_, st0_, ⟨⟨p0_, n0_, c0_⟩, ⟨q0_, m0_, d0_⟩, f0_⟩, ⟨a0_, b00_, e00_⟩, dd0_⟩ := x0
  exact (((((h.put (x' := ⟨si, st0_, ⟨⟨p0_, n0_, c0_⟩, ⟨q0_, m0_, d0_⟩, f⟩, ⟨a0_, b00_, e00_⟩, dd⟩) 0 _ (by decide) rfl).put (x' := ⟨si, st, ⟨⟨p0_, n0_, c0_⟩, ⟨q0_, m0_, d0_⟩, f⟩, ⟨a0_, b00_, e00_⟩, dd⟩) 1 _ (by decide) rfl).put (x' := ⟨si, st, ⟨⟨p, n, c⟩, ⟨q0_, m0_, d0_⟩, f⟩, ⟨a0_, b00_, e00_⟩, dd⟩) 2 _ (by decide) rfl).put (x' := ⟨si, st, ⟨⟨p, n, c⟩, ⟨q, m, d⟩, f⟩, ⟨a0_, b00_, e00_⟩, dd⟩) 3 _ (by decide) rfl).put (x' := ⟨si, st, ⟨⟨p, n, c⟩, ⟨q, m, d⟩, f⟩, ⟨a, b0, e0⟩, dd⟩) 4 _ (by decide) rfl)

/-- A snapshot that the call made. -/
structure OwnsS (w : World) (B : Nat) (x : SnapV) : Prop where
  i : inI x.i
  t : inI x.t
  f : OwnsF w B x.f
  w : Owns w B 5 (.slice x.w.p x.w.n x.w.c) x.d
  b : IsB x.d
  l : x.d.length ≤ 1073741824
theorem OwnsS.fits {w : World} {B : Nat} {x : SnapV} (h : OwnsS w B x) : FitsS w x := ⟨h.i, h.t, h.f.fits, h.w.has, h.b, Nat.le_trans h.l (by decide)⟩
theorem OwnsS.mono {w : World} {B B' : Nat} {x : SnapV} (h : OwnsS w B x) (hB : B' ≤ B) : OwnsS w B' x := ⟨h.i, h.t, h.f.mono hB, h.w.mono hB, h.b, h.l⟩
theorem Owns.kept10 {w w' : World} {B r : Nat} {e : TypeId} {v : Value} {xs : List Int} (h : Owns w B e v xs) (hg : w.grownBy w' (some r)) (hr : r < B) : Owns w' B e v xs := by
  refine World.ownsRow.kept h hg ?_
  cases hv : v.ownBlock with
  | none => exact .inl rfl
  | some k =>
    have := (World.ownsRow.lt h k hv).1
    exact .inr (fun e => by cases e; omega)
theorem OwnsS.kept {w w' : World} {B r : Nat} {x : SnapV} (h : OwnsS w B x) (hg : w.grownBy w' (some r)) (hr : r < B) : OwnsS w' B x := ⟨h.i, h.t, h.f.kept hg hr, h.w.kept10 hg hr, h.b, h.l⟩
theorem OwnsS.cell {w : World} {B b : Nat} {x : SnapV} (h : OwnsS w B x) (hb : b < B) (i : Nat) (v : Value) : OwnsS (w.setCell ⟨b, i, none⟩ v) B x := h.kept (grown_set w b i v) hb
theorem OwnsS.below {w w' : World} {B : Nat} {x : SnapV} (h : OwnsS w B x) (hb : Below w.heap.size w w') : OwnsS w' B x := ⟨h.i, h.t, h.f.below hb, h.w.below hb (Nat.le_refl _), h.b, h.l⟩
theorem OwnsS.nil (w : World) (B : Nat) : OwnsS w B noSV := ⟨⟨by decide, by decide⟩, ⟨by decide, by decide⟩, OwnsF.nil w B, Owns.nil w B _, IsB.nil, Nat.zero_le _⟩
theorem snap10_is (S : St) : snap10 9 S = (⟨(int9 S).1, (int9 (int9 S).2).1, (conf10 9 (int9 (int9 S).2).2).1, (byt10 (conf10 9 (int9 (int9 S).2).2).2).1⟩, (byt10 (conf10 9 (int9 (int9 S).2).2).2).2) := by
  unfold snap10
  rfl


set_option maxRecDepth 100000 in
set_option maxHeartbeats 4000000 in
theorem snapR_any (w0 w : World) (rb : Nat) (S0 : St) (h : Rdr w0 w rb S0) :
    Calls Tryz.prog 38 #[.pointer (some ⟨rb, 0, none⟩)] w fun e w' => ∃ X : SnapV, e = .returned (.agg X.arr) ∧ X.s = (snap10 9 S0).1 ∧ OwnsS w' w.heap.size X ∧ Left10 w0 w rb (snap10 9 S0).2 w' := by
  have hmf : ∀ (fn : Fn) (first cap : Array Value) (w : World), (Instr.makeFunc fn first cap).run Tryz.prog w = .ok (.func fn first cap) w := fun _ _ _ _ => rfl
  obtain ⟨i0, hi, hz0, hz1, hz2⟩ := info_parts info8c
  have h0 : RdX w0 w _ rb S0 43 #[.int .i64 0, .int .i64 0, .slice none 0 0, .slice none 0 0, .slice none 0 0] #[.int .i64 0, .int .i64 0, .slice none 0 0, .slice none 0 0, .slice none 0 0] := RdX.new h 43 #[.int .i64 0, .int .i64 0, .slice none 0 0, .slice none 0 0, .slice none 0 0]
  have HC : Hid (snap10 9 S0 = (⟨(int9 S0).1, (int9 (int9 S0).2).1, (conf10 9 (int9 (int9 S0).2).2).1, (byt10 (conf10 9 (int9 (int9 S0).2).2).2).1⟩, (byt10 (conf10 9 (int9 (int9 S0).2).2).2).2)) := snap10_is S0
  have HI0 : Hid (inI (int9 S0).1) := int9_in _
  have HI1 : Hid (inI (int9 (int9 S0).2).1) := int9_in _
  generalize snap10 9 S0 = R at *
  have hrl := h.lt
  clear h
  go_enter Tryz.func38, Tryz.ntmps38
  have ki0 := h0.r.int
  go_wp2_with fail
  refine ki0.mono ?_
  rintro _ y0 ⟨rfl, hl0⟩
  have h1 := h0.left hl0
  clear h0 ki0 hl0
  generalize int9 S0 = A at *
  obtain ⟨z0, S1⟩ := A
  dsimp only at h1 HC HI0 HI1
  have ki1 := h1.r.int
  go_wp2_with fail
  refine ki1.mono ?_
  rintro _ y1 ⟨rfl, hl1⟩
  have h2 := h1.left hl1
  clear h1 ki1 hl1
  generalize int9 S1 = A at *
  obtain ⟨z1, S2⟩ := A
  dsimp only at h2 HC HI1

  have c0 := box_cell h2.box 0
  have c1 := box_cell h2.box 1
  have fb := frozen9 h2.box
  have hlb := box_lt h2.box
  go_upto_region 4 with fail
  have h3 : RdX w0 w _ rb S2 43 #[.int .i64 z0, .int .i64 z1, .slice none 0 0, .slice none 0 0, .slice none 0 0] #[.int .i64 0, .int .i64 0, .slice none 0 0, .slice none 0 0, .slice none 0 0] := (h2.put 0 (.int .i64 z0) (by show 0 < 5; omega)).put 1 (.int .i64 z1) (by show 1 < 5; omega)
  clear h2 c0 c1 fb hlb
  generalize (y1.setCell ⟨w.heap.size + 1, 0, none⟩ (.int .i64 z0)).setCell ⟨w.heap.size + 1, 1, none⟩ (.int .i64 z1) = X3 at *
  have kc := confR_any w0 X3 rb S2 h3.r
  have hb3 := box_lt h3.box
  generalize conf10 9 S2 = A at *
  obtain ⟨ff, S3⟩ := A
  dsimp only at kc HC
  go_wp2_with fail
  refine kc.mono ?_
  rintro _ y4 ⟨X, rfl, hO4, hXf, hl4⟩
  have h4 := h3.left hl4
  have HXf : Hid (X.f = ff) := hXf
  clear kc h3 hl4 hXf
  obtain ⟨⟨p, n, c⟩, ⟨q, m, d⟩, f⟩ := X
  unfold ConfV.arr
  dsimp only
  have c2 := box_cell h4.box 2
  have c3 := box_cell h4.box 3
  have fb := frozen9 h4.box
  have hlb := box_lt h4.box
  go_upto_region 5 with fail
  have h5 : RdX w0 w _ rb S3 43 #[.int .i64 z0, .int .i64 z1, .slice p n c, .slice q m d, .slice none 0 0] #[.int .i64 0, .int .i64 0, .slice none 0 0, .slice none 0 0, .slice none 0 0] := (h4.put 2 (.slice p n c) (by show 2 < 5; omega)).put 3 (.slice q m d) (by show 3 < 5; omega)
  have hO5 := (hO4.cell (b := w.heap.size + 1) (by omega) 2 (.slice p n c)).cell (b := w.heap.size + 1) (by omega) 3 (.slice q m d)
  clear h4 hO4 c2 c3 fb hlb
  generalize (y4.setCell ⟨w.heap.size + 1, 2, none⟩ (.slice p n c)).setCell ⟨w.heap.size + 1, 3, none⟩ (.slice q m d) = X5 at *
  have hD : Below X5.heap.size X5 X5.drew := ⟨rfl, rfl, rfl, Nat.le_refl _, fun _ _ => rfl⟩
  have h6 := h5.more hD
  have hO6 := hO5.below hD
  have kt := h6.r.text
  have HB : Hid (IsB (byt10 S3).1) := byt10_isB h6.r.isb
  have hlen : (byt10 S3).1.length ≤ 1073741824 := Nat.le_trans (byt10_len S3) h6.r.len
  have HT : Hid (strB (strOfNums (byt10 S3).1) = (byt10 S3).1) := strB_of HB.out
  have hsz : (strOfNums (byt10 S3).1).size ≤ 1073741824 := by rw [size_of HB.out]; exact hlen
  have HLen : Hid ((byt10 S3).1.length ≤ 1073741824) := hlen
  generalize byt10 S3 = A at *
  obtain ⟨xs, S4⟩ := A
  dsimp only at kt HC HB HT hsz HLen
  generalize strOfNums xs = sx at *
  have c4 : X5.drew.cell? ⟨w.heap.size + 1, 4, none⟩ = some (.slice none 0 0) := box_cell h6.box 4
  have hlb := box_lt h6.box
  have hx6 : Hid (RdX w0 w X5.drew rb S3 43 #[.int .i64 z0, .int .i64 z1, .slice p n c, .slice q m d, .slice none 0 0] #[.int .i64 0, .int .i64 0, .slice none 0 0, .slice none 0 0, .slice none 0 0]) := h6
  have HO6 : Hid (OwnsF X5.drew X3.heap.size ⟨⟨p, n, c⟩, ⟨q, m, d⟩, f⟩) := hO6
  clear h5 h6 hO5 hO6 hD hlen
  go_region_law (first
    | (go_simp; go_at_call 78; refine Calls.mono kt ?_; rintro _ y7 ⟨rfl, hl7⟩; dsimp only; have h7 := hx6.out.left hl7; have hO7 := HO6.out.kept hl7.2 (by omega); have d4 : y7.cell? ⟨w.heap.size + 1, 4, none⟩ = some (.slice none 0 0) := box_cell h7.box 4; have hld := box_lt h7.box)
    | (refine step_text _ rfl _ _ 22 9 rfl y7.heap.size 5 i0 Tryz.underlying22 Tryz.underlying9 hi hz0 hz1 hz2 _ [] sx rfl rfl (Owns.nil _ _ _) (by simp) (by omega) (Nat.le_refl _) ?_; intro v8 y8 ho8 hg8; have hb8 := (below_grown (Owns.nil y7 y7.heap.size 5) (Nat.le_refl _) hg8); rw [List.nil_append, HT.out] at ho8; have h8 := h7.more hb8; have hO8 := hO7.below hb8; have c4' := box_cell h8.box 4; have fb := frozen9 h8.box; have hlb8 := box_lt h8.box; obtain ⟨a, e0, rfl, -, -, -⟩ := id ho8.has; generalize hb0 : xs.length = b0 at ho8 ⊢; clear hb0))
  all_goals
    have hx : RdX w0 w _ rb S4 43 #[.int .i64 z0, .int .i64 z1, .slice p n c, .slice q m d, .slice a b0 e0] #[.int .i64 0, .int .i64 0, .slice none 0 0, .slice none 0 0, .slice none 0 0] := h8.put 4 (.slice a b0 e0) (by show 4 < 5; omega)
    have hS9 : OwnsS _ (w.heap.size + 1 + 1) ⟨z0, z1, ⟨⟨p, n, c⟩, ⟨q, m, d⟩, f⟩, ⟨a, b0, e0⟩, xs⟩ := ⟨HI0.out, HI1.out, (hO8.cell (b := w.heap.size + 1) (by omega) 4 (.slice a b0 e0)).mono (by omega), (ho8.kept10 (grown_set y8 (w.heap.size + 1) 4 (.slice a b0 e0)) (by omega)).mono (by omega), HB.out, HLen.out⟩
    clear h8 hO8 ho8 c4' fb hlb8 h7 hO7 d4 hld hl7 hg8 hb8
    generalize y8.setCell ⟨w.heap.size + 1, 4, none⟩ (.slice a b0 e0) = X9 at *
    have c0 := box_cell hx.box 0
    have c1 := box_cell hx.box 1
    have c2 := box_cell hx.box 2
    have c3 := box_cell hx.box 3
    have c4 := box_cell hx.box 4
    have d0 := box_cell hx.res 0
    have d1 := box_cell hx.res 1
    have d2 := box_cell hx.res 2
    have d3 := box_cell hx.res 3
    have d4 := box_cell hx.res 4
    have fb := frozen9 hx.res
    have hlb := box_lt hx.box
    have hlr := box_lt hx.res
    go_wp2
    have hF := fillS (b := w.heap.size) (x0 := noSV) hx.res z0 z1 p n c q m d a b0 e0 f xs
    have hR9 := ((((((((((hx.r).cell (b := w.heap.size) (by omega) (by omega) 0 (.int .i64 z0))).cell (b := w.heap.size) (by omega) (by omega) 1 (.int .i64 z1))).cell (b := w.heap.size) (by omega) (by omega) 2 (.slice p n c))).cell (b := w.heap.size) (by omega) (by omega) 3 (.slice q m d))).cell (b := w.heap.size) (by omega) (by omega) 4 (.slice a b0 e0))
    have hG9 := (grown_new (b := w.heap.size) (grown_new (b := w.heap.size) (grown_new (b := w.heap.size) (grown_new (b := w.heap.size) (grown_new (b := w.heap.size) hx.g (by omega) 0 (.int .i64 z0)) (by omega) 1 (.int .i64 z1)) (by omega) 2 (.slice p n c)) (by omega) 3 (.slice q m d)) (by omega) 4 (.slice a b0 e0))
    have hO9 := ((((((((((hS9).cell (b := w.heap.size) (by omega) 0 (.int .i64 z0))).cell (b := w.heap.size) (by omega) 1 (.int .i64 z1))).cell (b := w.heap.size) (by omega) 2 (.slice p n c))).cell (b := w.heap.size) (by omega) 3 (.slice q m d))).cell (b := w.heap.size) (by omega) 4 (.slice a b0 e0))
    refine bodyPost_ret (ret_one rfl _ _ w.heap.size _ _ _ _ rfl hF Tryz.underlying43 rfl (by kernel_rfl)) rfl ⟨⟨z0, z1, ⟨⟨p, n, c⟩, ⟨q, m, d⟩, f⟩, ⟨a, b0, e0⟩, xs⟩, rfl, ?_, hO9.mono (by omega), ?_, hG9⟩
    · rw [HC.out, ← HXf.out]; rfl
    · rw [HC.out]; exact hR9

theorem min_of (x y : Int) : (if y < x then y else x) = min x y := by
  rw [Int.min_def]
  split <;> split <;> omega
theorem min3_run (ts : Array TypeId) (t : TypeId) (x y z : Int) (W : World) : (Builtin.min_ ts t #[.int .i64 x, .int .i64 y, .int .i64 z]).run Tryz.prog W = .ok (.int .i64 (min (min x y) z)) W := by
  simp [Builtin.min_, Builtin.min2, min_of]
theorem min5_run (ts : Array TypeId) (t : TypeId) (x y z u v : Int) (W : World) : (Builtin.min_ ts t #[.int .i64 x, .int .i64 y, .int .i64 z, .int .i64 u, .int .i64 v]).run Tryz.prog W = .ok (.int .i64 (min (min (min (min x y) z) u) v)) W := by
  simp [Builtin.min_, Builtin.min2, min_of]

set_option maxRecDepth 100000 in
set_option maxHeartbeats 2000000 in
theorem goodHard_any (x : Hard10) (w : World) : Calls Tryz.prog 34 #[.agg x.arr] w fun e w' => e = .returned (.bool (goodH10 x)) ∧ Below w.heap.size w w' := by
  have hb1 : Below w.heap.size w (w.alloc (.cells x.arr 37)) := (Below.refl _ _).alloc (Nat.le_refl _) _
  have HG : Hid (goodH10 x = decide (0 ≤ min (min x.t x.v) x.c)) := by
    rw [Hid, Bool.eq_iff_iff]
    unfold goodH10
    simp only [Bool.and_eq_true, decide_eq_true_eq]
    omega
  generalize goodH10 x = r at *
  obtain ⟨ht, hv, hc⟩ := x
  have hm3 := fun ts t W => min3_run ts t ht hv hc W
  unfold Hard10.arr at *
  dsimp only at *
  go_enter Tryz.func34, Tryz.ntmps34
  generalize min (min ht hv) hc = mm at *
  go_wp2
  go_ret
  rw [HG.out]
  exact ⟨rfl, hb1⟩

theorem readerOf_any (v : Value) (w : World) (h : ∃ p n c, v = .slice p n c) : Calls Tryz.prog 26 #[v] w fun e w' => e = .returned (.pointer (some ⟨w.heap.size, 0, none⟩)) ∧ w' = w.alloc (.cells #[v, .bool false] 103) := by
  obtain ⟨p, n, c, rfl⟩ := h
  go_enter Tryz.func26, Tryz.ntmps26
  go_wp2
  go_ret
  exact ⟨rfl, rfl⟩
theorem Rdr.make {w0 w : World} {v : Value} {xs : List Int} (hb : Below w0.heap.size w0 w) (hv : Has w0 v xs) (hB : IsB xs) (hl : xs.length ≤ 1073741824) (T : TypeId) : Rdr w0 (w.alloc (.cells #[v, .bool false] T)) w.heap.size (xs, false) := by
  have hbox := heap_alloc_new w (.cells #[v, .bool false] T)
  have hb2 : Below w.heap.size w (w.alloc (.cells #[v, .bool false] T)) := (Below.refl _ _).alloc (Nat.le_refl _) _
  refine ⟨⟨v, ⟨by simp, hb.size, box_cell hbox 0, box_cell hbox 1, frozen9 hbox 0, frozen9 hbox 1, (hv.inn.below hb (Nat.le_refl _)).below hb2 hb.size⟩⟩, hb.trans (hb2.mono hb.size), (fun h => by cases h), hB, hl⟩
end Go.Proofs.YtnbaoimjcaeeaaaGreat
