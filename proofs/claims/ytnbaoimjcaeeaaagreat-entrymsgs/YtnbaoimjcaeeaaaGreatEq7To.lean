import Derived.Test.YtnbaoimjcaeeaaaGreatEo4To
import Derived.Test.YtnbaoimjcaeeaaaGreatEn3To
import Derived.Test.YtnbaoimjcaeeaaaGreatEr3To
import Derived.Deep.DeepCutAuto
import Derived.Deep.RegionHeld3
/-
  Contracts: entry.putList at entries, MsgBytes.
-/
namespace Go.Proofs.YtnbaoimjcaeeaaaGreat
open Go.RowKit Go.Shelf

/-- So many entries' bytes. -/
def esB (es : List EntV) : List Int := entsB (es.map EntV.e)
theorem esB_snoc {es : List EntV} {j : Nat} (h : j < es.length) : esB (es.take (j + 1)) = esB (es.take j) ++ entB (es.getD j noEV).e := by
  have ht : es.take (j + 1) = es.take j ++ [es[j]] := by rw [List.take_add_one, List.getElem?_eq_getElem h]; rfl
  unfold esB entsB
  rw [ht, List.map_append, List.map_append, List.flatten_append, List.getD_eq_getElem?_getD, List.getElem?_eq_getElem h]
  congr 1
  simp
theorem esB_len {es : List EntV} (h : ∀ e ∈ es, FewF e.f.f ∧ FewC e.c) : (esB es).length ≤ es.length * 100000 := by
  induction es with
  | nil => simp [esB, entsB]
  | cons a l ih =>
    have h1 := entB_len (e := a.e) (h a (by simp)).2 (h a (by simp)).1
    have h2 := ih fun e he => h e (by simp [he])
    unfold esB entsB at *
    rw [List.map_cons, List.map_cons, List.flatten_cons, List.length_append, List.length_cons]
    omega
theorem esB_take {es : List EntV} (h : ∀ e ∈ es, FewF e.f.f ∧ FewC e.c) (hl : es.length ≤ 400) (j : Nat) : (esB (es.take j)).length ≤ 40000000 := by
  have := esB_len (es := es.take j) fun e he => h e (List.mem_of_mem_take he)
  have := List.length_take_le j es
  rw [List.length_take] at *
  omega


set_option maxRecDepth 100000 in
set_option maxHeartbeats 3000000 in
theorem putListE_any (w0 w : World) (v : Value) (xs : List Int) (es : List EntV) (p : Option Addr) (n c : Nat) (h : Put10 w0 w v xs) (hE : HasE w0 ⟨p, n, c⟩ es) (hf : ∀ e ∈ es, FewF e.f.f ∧ FewC e.c) (hn2 : n ≤ 400) (hl : xs.length ≤ 1000) :
    Calls Tryz.prog 54 #[v, .slice p n c, .func (.func 55) #[] #[]] w (Puts w0 w (xs ++ (numB (es.length : Int) ++ esB es))) := by
  obtain ⟨i0, hi, hz0, hz1, hz2⟩ := info_parts info8c
  have HN : Hid (es.length = n) := hE.n
  have HX : Hid (HasE w0 ⟨p, n, c⟩ es) := hE
  have HFw : Hid (∀ e ∈ es, FewF e.f.f ∧ FewC e.c) := hf
  have HTk : Hid (∀ j, (esB (es.take j)).length ≤ 40000000) := esB_take hf (by rw [HN.out]; exact hn2)
  have HL : Hid (numB (es.length : Int) ++ esB es = numB (n : Int) ++ esB es) := by rw [Hid, HN.out]
  clear hE hf
  have k2 := put_any (.slice none 0 0) [] (n : Int) w (Has.nil w) (by simp) (by omega) (by omega)
  have hnl := numB_le (n : Int)
  go_enter Tryz.func54, Tryz.ntmps54
  go_wp2_with fail
  refine k2.mono ?_
  rintro e w1 ⟨v1, rfl, ho1, hb1⟩
  have h1 := h.more hb1
  have hsz := h1.bel.size
  rw [List.nil_append] at ho1
  clear k2 h
  go_wp2_with (at_builtin; refine ap_slice_g _ rfl _ _ 22 rfl w0.heap.size 5 i0 Tryz.underlying22 hi hz0 hz1 hz2 _ xs (numB (n : Int)) rfl (by exact ho1.has) (by exact h1.own) (by omega) (by omega) (by exact hsz) ?_; intro v2 w2 ho2 hg2)
  have hP2 : Put10 w0 w2 v2 (xs ++ numB (n : Int)) := ⟨ho2, h1.bel.trans (below_grown h1.own hsz hg2)⟩
  have hk2 : Kin8 w w2 := (Kin8.below hb1).trans (Kin8.grown h1.own hg2)
  clear h1 hsz ho1 hb1 ho2 hg2
  go_loopw [0, 17] (fun s0 s17 wr => ∃ (j : Nat) (u : Value), u = s0 ∧ j ≤ n ∧ s17 = .int .i64 (j : Nat) ∧ Put10 w0 wr u (xs ++ numB (n : Int) ++ esB (es.take j)) ∧ Kin8 w wr) (fun _ s17 _ => n - (intOf s17).toNat)
  case atStart => exact ⟨0, _, rfl, Nat.zero_le _, rfl, by rw [List.take_zero, show esB [] = [] from rfl, List.append_nil]; exact hP2, hk2⟩
  case round =>
    clear hP2 hk2
    obtain ⟨j, u, hu, hj, rfl, hP, hk⟩ := hrel
    subst hu
    by_cases hlt : j < n
    · obtain ⟨bb, o, x, hp, hbl0, Hx, hmem, hfit, g0, g1, g2, g3, g4, g5, g6, g7, g8, g9, g10, g11, g12⟩ := HX.out.at (j := j) hlt
      dsimp only at hp
      subst hp
      have qq0 := (hP.bel.cell (p := ⟨bb, o + j * 13, none⟩) hbl0).trans g0
      have qq1 := (hP.bel.cell (p := ⟨bb, o + j * 13 + 1, none⟩) hbl0).trans g1
      have qq2 := (hP.bel.cell (p := ⟨bb, o + j * 13 + 2, none⟩) hbl0).trans g2
      have qq3 := (hP.bel.cell (p := ⟨bb, o + j * 13 + 3, none⟩) hbl0).trans g3
      have qq4 := (hP.bel.cell (p := ⟨bb, o + j * 13 + 4, none⟩) hbl0).trans g4
      have qq5 := (hP.bel.cell (p := ⟨bb, o + j * 13 + 5, none⟩) hbl0).trans g5
      have qq6 := (hP.bel.cell (p := ⟨bb, o + j * 13 + 6, none⟩) hbl0).trans g6
      have qq7 := (hP.bel.cell (p := ⟨bb, o + j * 13 + 7, none⟩) hbl0).trans g7
      have qq8 := (hP.bel.cell (p := ⟨bb, o + j * 13 + 8, none⟩) hbl0).trans g8
      have qq9 := (hP.bel.cell (p := ⟨bb, o + j * 13 + 9, none⟩) hbl0).trans g9
      have qq10 := (hP.bel.cell (p := ⟨bb, o + j * 13 + 10, none⟩) hbl0).trans g10
      have qq11 := (hP.bel.cell (p := ⟨bb, o + j * 13 + 11, none⟩) hbl0).trans g11
      have qq12 := (hP.bel.cell (p := ⟨bb, o + j * 13 + 12, none⟩) hbl0).trans g12
      have hbl : bb < wr.heap.size := Nat.lt_of_lt_of_le hbl0 hP.bel.size
      have HS : Hid (esB (es.take (j + 1)) = esB (es.take j) ++ entB x.e) := by rw [Hid, Hx]; exact esB_snoc (by rw [HN.out]; exact hlt)
      have hlen := HTk.out j
      have hba : Below wr.heap.size wr (wr.alloc (.cells x.arr 30)) := (Below.refl _ _).alloc (Nat.le_refl _) _
      have hff := HFw.out x hmem
      have kp := putEntry_any w0 _ u _ x (hP.more hba) hfit.f hff.1 hff.2 (by rw [List.length_append, List.length_append]; omega)
      have hkb := hk.trans (Kin8.below hba)
      generalize entB x.e = eb at *
      clear hP hbl0 Hx hmem hfit hff g0 g1 g2 g3 g4 g5 g6 g7 g8 g9 g10 g11 g12 hk hba
      obtain ⟨xi, xt, xk, ⟨ck, cs, cq, ckey, cold, cval, cunt, clim⟩, ⟨⟨p1, n1, c1⟩, ⟨q1, m1, d1⟩, f1⟩⟩ := x
      unfold EntV.arr at *
      dsimp only at *
      go_wp2_with fail
      generalize wr.alloc (.cells #[.int .i64 xi, .int .i64 xt, .int .i64 xk, .int .i64 ck, .int .i64 cs, .int .i64 cq, .string ckey, .string cold, .string cval, .string cunt, .int .i64 clim, .slice p1 n1 c1, .slice q1 m1 d1] 30) = W2 at *
      refine kp.mono ?_
      rintro e w3 ⟨v3, rfl, hP3, hk3⟩
      clear kp qq0 qq1 qq2 qq3 qq4 qq5 qq6 qq7 qq8 qq9 qq10 qq11 qq12
      go_wp2
      go_roundw
      case rel => exact ⟨j + 1, _, rfl, by omega, by go_num, by rw [HS.out, ← List.append_assoc]; exact hP3, hkb.trans hk3⟩
      case measure => simp only [intOf]; omega
    · rw [List.take_of_length_le (by rw [HN.out]; omega)] at hP
      go_wp2
      go_ret
      exact ⟨_, rfl, by rw [HL.out, ← List.append_assoc]; exact hP, hk⟩

theorem numsB8 (a b c d e f g h : Int) : numsB [a, b, c, d, e, f, g, h] = zigB a ++ zigB b ++ zigB c ++ zigB d ++ zigB e ++ zigB f ++ zigB g ++ zigB h := by simp [numsB]
/-- A message of which a few things are put. -/
structure LowM (x : MsgV) : Prop where
  es : x.es.length ≤ 400
  each : ∀ e ∈ x.es, FewF e.f.f ∧ FewC e.c
  f : FewF x.sn.f.f
  d : x.sn.d.length ≤ 1000000
theorem FewM.low {x : MsgV} (h : FewM x) : LowM x := ⟨h.es, fun e he => weight_few (h.each e he) (Nat.le_refl _), ⟨Nat.le_trans h.vs (by decide), Nat.le_trans h.ls (by decide)⟩, Nat.le_trans h.d (by decide)⟩

set_option maxRecDepth 100000 in
set_option maxHeartbeats 4000000 in
theorem bytesM_any (w : World) (x : MsgV) (hF : FitsM w x) (hw : LowM x) :
    Calls Tryz.prog 20 #[.agg x.arr] w fun e w' => ∃ v, e = .returned v ∧ Owns w' w.heap.size 5 v (msgB x.m) ∧ Below w.heap.size w w' := by
  have hb1 : Below w.heap.size w (w.alloc (.cells x.arr 53)) := (Below.refl _ _).alloc (Nat.le_refl _) _
  have hbox : MsgAt (w.alloc (.cells x.arr 53)) w.heap.size x := heap_alloc_new w _
  have hz1 : (w.alloc (.cells x.arr 53)).heap.size = w.heap.size + 1 := by simp
  have HE : Hid (msgB x.m = numsB [x.k, x.fr, x.to, x.t, x.i, x.lt, x.cm, x.ro] ++ [boolB x.rej] ++ zigB x.hint ++ (if x.k = 5 then numB (x.es.length : Int) ++ esB x.es else []) ++ (if x.k = 7 then snapB x.sn.s else [])) := by
    rw [Hid, numsB8]
    unfold msgB MsgV.m esB
    dsimp only
    rw [List.length_map]
  have hl8 : (numsB [x.k, x.fr, x.to, x.t, x.i, x.lt, x.cm, x.ro]).length ≤ 72 := numsB_len _
  have hlh := zigB_le x.hint
  have kn : Hid (∀ W R, Put10 w W (.slice none 0 0) [] → W.heap[R]? = some (.cells ([x.k, x.fr, x.to, x.t, x.i, x.lt, x.cm, x.ro].map (Value.int .i64)).toArray 3 (0, 0)) → Calls Tryz.prog 51 #[.slice none 0 0, .slice (some ⟨R, 0, none⟩) 8 8] W (Puts w W (numsB [x.k, x.fr, x.to, x.t, x.i, x.lt, x.cm, x.ro]))) := fun W R hP hR => by
    have := putNumbers_any w W (.slice none 0 0) [] [x.k, x.fr, x.to, x.t, x.i, x.lt, x.cm, x.ro] R 8 hP hR rfl (by omega) (by simp)
    rwa [List.nil_append] at this
  have kh : Hid (∀ W u, Put10 w W u (numsB [x.k, x.fr, x.to, x.t, x.i, x.lt, x.cm, x.ro] ++ [boolB x.rej]) → Calls Tryz.prog 53 #[u, .int .i64 x.hint] W (Puts w W (numsB [x.k, x.fr, x.to, x.t, x.i, x.lt, x.cm, x.ro] ++ [boolB x.rej] ++ zigB x.hint))) := fun W u hP => putNumber_any w W u _ x.hint hP (by rw [List.length_append]; simp; omega)
  have ke : Hid (∀ W u, Put10 w W u (numsB [x.k, x.fr, x.to, x.t, x.i, x.lt, x.cm, x.ro] ++ [boolB x.rej] ++ zigB x.hint) → Calls Tryz.prog 54 #[u, .slice x.w.p x.w.n x.w.c, .func (.func 55) #[] #[]] W (Puts w W (numsB [x.k, x.fr, x.to, x.t, x.i, x.lt, x.cm, x.ro] ++ [boolB x.rej] ++ zigB x.hint ++ (numB (x.es.length : Int) ++ esB x.es)))) := fun W u hP => putListE_any w W u _ x.es _ _ _ hP hF.es hw.each (by rw [← hF.es.n]; exact hw.es) (by rw [List.length_append, List.length_append]; simp; omega)
  have ks : Hid (∀ W u, Put10 w W u (numsB [x.k, x.fr, x.to, x.t, x.i, x.lt, x.cm, x.ro] ++ [boolB x.rej] ++ zigB x.hint) → Calls Tryz.prog 56 #[u, .agg x.sn.arr] W (Puts w W (numsB [x.k, x.fr, x.to, x.t, x.i, x.lt, x.cm, x.ro] ++ [boolB x.rej] ++ zigB x.hint ++ snapB x.sn.s))) := fun W u hP => putSnap_any w W u _ x.sn hP hF.sn hw.f hw.d (by rw [List.length_append, List.length_append]; simp; omega)
  clear hF hw
  generalize numsB [x.k, x.fr, x.to, x.t, x.i, x.lt, x.cm, x.ro] = ns at *
  generalize snapB x.sn.s = sb at *
  generalize numB (x.es.length : Int) ++ esB x.es = eb at *
  generalize hbs : msgB x.m = bs at *
  clear hbs
  obtain ⟨k, fr, too, t, i, lt, cm, ro, rej, hint, ⟨a, b, e⟩, es, ⟨si, st, ⟨⟨p, n, c⟩, ⟨q, m, d⟩, f⟩, ⟨a', b', e'⟩, dd⟩⟩ := x
  unfold MsgV.arr at *
  unfold SnapV.arr at *
  dsimp only at *
  have hr := heap_alloc_new (w.alloc (.cells #[.int .i64 k, .int .i64 fr, .int .i64 too, .int .i64 t, .int .i64 i, .int .i64 lt, .int .i64 cm, .int .i64 ro, .bool rej, .int .i64 hint, .slice a b e, .int .i64 si, .int .i64 st, .slice p n c, .slice q m d, .slice a' b' e'] 53)) (.cells #[.int .i64 k, .int .i64 fr, .int .i64 too, .int .i64 t, .int .i64 i, .int .i64 lt, .int .i64 cm, .int .i64 ro] 3)
  have hb2 := (Below.refl _ (w.alloc (.cells #[.int .i64 k, .int .i64 fr, .int .i64 too, .int .i64 t, .int .i64 i, .int .i64 lt, .int .i64 cm, .int .i64 ro, .bool rej, .int .i64 hint, .slice a b e, .int .i64 si, .int .i64 st, .slice p n c, .slice q m d, .slice a' b' e'] 53))).alloc (Nat.le_refl _) (.cells #[.int .i64 k, .int .i64 fr, .int .i64 too, .int .i64 t, .int .i64 i, .int .i64 lt, .int .i64 cm, .int .i64 ro] 3)
  rw [hz1] at hr
  have hP2 := ((Put10.nil w).more hb1).more hb2
  have k1 := kn.out _ (w.heap.size + 1) hP2 hr
  have hbox2 := box_below hbox hb2
  clear hbox hr kn hP2 hb2
  go_enter Tryz.func20, Tryz.ntmps20
  go_wp2_with fail
  generalize (w.alloc (.cells #[.int .i64 k, .int .i64 fr, .int .i64 too, .int .i64 t, .int .i64 i, .int .i64 lt, .int .i64 cm, .int .i64 ro, .bool rej, .int .i64 hint, .slice a b e, .int .i64 si, .int .i64 st, .slice p n c, .slice q m d, .slice a' b' e'] 53)).alloc (.cells #[.int .i64 k, .int .i64 fr, .int .i64 too, .int .i64 t, .int .i64 i, .int .i64 lt, .int .i64 cm, .int .i64 ro] 3) = W2 at *
  refine k1.mono ?_
  rintro _ w3 ⟨v3, rfl, hP3, hk3⟩
  have hbox3 : MsgAt w3 w.heap.size ⟨k, fr, too, t, i, lt, cm, ro, rej, hint, ⟨a, b, e⟩, es, ⟨si, st, ⟨⟨p, n, c⟩, ⟨q, m, d⟩, f⟩, ⟨a', b', e'⟩, dd⟩⟩ := hk3 _ _ _ _ hbox2 (by decide)
  have c0 := box_cell hbox3 0
  have c1 := box_cell hbox3 1
  have c2 := box_cell hbox3 2
  have c3 := box_cell hbox3 3
  have c4 := box_cell hbox3 4
  have c5 := box_cell hbox3 5
  have c6 := box_cell hbox3 6
  have c7 := box_cell hbox3 7
  have c8 := box_cell hbox3 8
  have c9 := box_cell hbox3 9
  have c10 := box_cell hbox3 10
  have c11 := box_cell hbox3 11
  have c12 := box_cell hbox3 12
  have c13 := box_cell hbox3 13
  have c14 := box_cell hbox3 14
  have c15 := box_cell hbox3 15
  dsimp only [MsgV.arr] at c0 c1 c2 c3 c4 c5 c6 c7 c8 c9 c10 c11 c12 c13 c14 c15
  have hlt3 := box_lt hbox3
  have k3 := putBool_any v3 ns rej w3 hP3.own.has (by omega)
  clear k1 hbox2 hk3 hb1
  go_wp2_with fail
  refine k3.mono ?_
  rintro _ w4 ⟨v4, rfl, ho4, hb4⟩
  have hbox4 : MsgAt w4 w.heap.size ⟨k, fr, too, t, i, lt, cm, ro, rej, hint, ⟨a, b, e⟩, es, ⟨si, st, ⟨⟨p, n, c⟩, ⟨q, m, d⟩, f⟩, ⟨a', b', e'⟩, dd⟩⟩ := box_below hbox3 hb4
  have hP4 : Put10 w w4 v4 (ns ++ [boolB rej]) := ⟨ho4.mono hP3.bel.size, hP3.bel.trans (hb4.mono hP3.bel.size)⟩
  have k4 := kh.out w4 v4 hP4
  clear k3 hbox3 hlt3 c0 c1 c2 c3 c4 c5 c6 c7 c8 c9 c10 c11 c12 c13 c14 c15 hP3 ho4 hb4 kh
  have c0 := box_cell hbox4 0
  have c1 := box_cell hbox4 1
  have c2 := box_cell hbox4 2
  have c3 := box_cell hbox4 3
  have c4 := box_cell hbox4 4
  have c5 := box_cell hbox4 5
  have c6 := box_cell hbox4 6
  have c7 := box_cell hbox4 7
  have c8 := box_cell hbox4 8
  have c9 := box_cell hbox4 9
  have c10 := box_cell hbox4 10
  have c11 := box_cell hbox4 11
  have c12 := box_cell hbox4 12
  have c13 := box_cell hbox4 13
  have c14 := box_cell hbox4 14
  have c15 := box_cell hbox4 15
  dsimp only [MsgV.arr] at c0 c1 c2 c3 c4 c5 c6 c7 c8 c9 c10 c11 c12 c13 c14 c15
  have hlt4 := box_lt hbox4
  go_wp2_with fail
  refine k4.mono ?_
  rintro _ w5 ⟨v5, rfl, hP5, hk5⟩
  have hbox5 : MsgAt w5 w.heap.size ⟨k, fr, too, t, i, lt, cm, ro, rej, hint, ⟨a, b, e⟩, es, ⟨si, st, ⟨⟨p, n, c⟩, ⟨q, m, d⟩, f⟩, ⟨a', b', e'⟩, dd⟩⟩ := hk5 _ _ _ _ hbox4 (by decide)
  clear k4 hbox4 hlt4 c0 c1 c2 c3 c4 c5 c6 c7 c8 c9 c10 c11 c12 c13 c14 c15 hP4 hk5
  have c0 := box_cell hbox5 0
  have c1 := box_cell hbox5 1
  have c2 := box_cell hbox5 2
  have c3 := box_cell hbox5 3
  have c4 := box_cell hbox5 4
  have c5 := box_cell hbox5 5
  have c6 := box_cell hbox5 6
  have c7 := box_cell hbox5 7
  have c8 := box_cell hbox5 8
  have c9 := box_cell hbox5 9
  have c10 := box_cell hbox5 10
  have c11 := box_cell hbox5 11
  have c12 := box_cell hbox5 12
  have c13 := box_cell hbox5 13
  have c14 := box_cell hbox5 14
  have c15 := box_cell hbox5 15
  dsimp only [MsgV.arr] at c0 c1 c2 c3 c4 c5 c6 c7 c8 c9 c10 c11 c12 c13 c14 c15
  have hlt5 := box_lt hbox5
  by_cases h5 : k = 5
  · have k6 := ke.out w5 v5 hP5
    have HB : Hid (bs = ns ++ [boolB rej] ++ zigB hint ++ eb) := by rw [Hid, HE.out, if_pos h5, if_neg (by omega), List.append_nil]
    subst h5
    clear ks ke HE
    go_wp2_with fail
    refine k6.mono ?_
    rintro _ w6 ⟨v6, rfl, hP6, hk6⟩
    go_wp2
    go_ret
    exact ⟨_, rfl, by rw [HB.out]; exact hP6.own, hP6.bel⟩
  have e5 : (k == 5) = false := by simpa using h5
  by_cases h7 : k = 7
  · have k6 := ks.out w5 v5 hP5
    have HB : Hid (bs = ns ++ [boolB rej] ++ zigB hint ++ sb) := by rw [Hid, HE.out, if_neg h5, if_pos h7, List.append_nil]
    subst h7
    clear ks ke HE
    go_wp2_with fail
    refine k6.mono ?_
    rintro _ w6 ⟨v6, rfl, hP6, hk6⟩
    go_wp2
    go_ret
    exact ⟨_, rfl, by rw [HB.out]; exact hP6.own, hP6.bel⟩
  have e7 : (k == 7) = false := by simpa using h7
  have HB : Hid (bs = ns ++ [boolB rej] ++ zigB hint) := by rw [Hid, HE.out, if_neg h5, if_neg h7, List.append_nil, List.append_nil]
  clear ks ke HE
  go_wp2
  go_ret
  exact ⟨_, rfl, by rw [HB.out]; exact hP5.own, hP5.bel⟩
end Go.Proofs.YtnbaoimjcaeeaaaGreat

/-
  Contracts: corbelref10.MsgBytes.
-/
namespace Go.Proofs.YtnbaoimjcaeeaaaGreat
open Go.RowKit Go.Shelf

theorem numsB1 (a : Int) : numsB [a] = zigB a := by simp [numsB]
theorem keepM {w1 wA wB : World} {b : Nat} {xb8 xb9 : Value} (hlb : b < w1.heap.size) (h : wA.cell? ⟨b, 8, none⟩ = some xb8 ∧ wA.cell? ⟨b, 9, none⟩ = some xb9 ∧ Below w1.heap.size w1 wA) (hb : Below wA.heap.size wA wB) :
    wB.cell? ⟨b, 8, none⟩ = some xb8 ∧ wB.cell? ⟨b, 9, none⟩ = some xb9 ∧ Below w1.heap.size w1 wB := by
  obtain ⟨h0, h1, hz⟩ := h
  have hs := hz.size
  exact ⟨(hb.cell (p := ⟨b, 8, none⟩) (by exact Nat.lt_of_lt_of_le hlb hs)).trans h0, (hb.cell (p := ⟨b, 9, none⟩) (by exact Nat.lt_of_lt_of_le hlb hs)).trans h1, hz.trans (hb.mono hs)⟩
theorem keepM0 {w1 : World} {b : Nat} {xb8 xb9 : Value} (h0 : w1.cell? ⟨b, 8, none⟩ = some xb8) (h1 : w1.cell? ⟨b, 9, none⟩ = some xb9) : w1.drew.cell? ⟨b, 8, none⟩ = some xb8 ∧ w1.drew.cell? ⟨b, 9, none⟩ = some xb9 ∧ Below w1.heap.size w1 w1.drew :=
  ⟨h0, h1, ⟨rfl, rfl, rfl, Nat.le_refl _, fun _ _ => rfl⟩⟩
theorem keepMB {w1 wA : World} {b : Nat} {xb8 xb9 : Value} (h : wA.cell? ⟨b, 8, none⟩ = some xb8 ∧ wA.cell? ⟨b, 9, none⟩ = some xb9 ∧ Below w1.heap.size w1 wA) : Below w1.heap.size w1 wA := h.2.2

set_option maxRecDepth 100000 in
set_option maxHeartbeats 4000000 in
theorem rbytesM_any (w : World) (x : MsgV) (hF : FitsM w x) (hw : LowM x) :
    Calls Tryz.prog 21 #[.agg x.arr] w (Outs w (msgB x.m)) := by
  have hb1 : Below w.heap.size w (w.alloc (.cells x.arr 53)) := (Below.refl _ _).alloc (Nat.le_refl _) _
  have hbox : MsgAt (w.alloc (.cells x.arr 53)) w.heap.size x := heap_alloc_new w _
  have hz1 : (w.alloc (.cells x.arr 53)).heap.size = w.heap.size + 1 := by simp
  have HE : Hid (msgB x.m = numsB [x.k, x.fr, x.«to», x.t, x.i, x.lt, x.cm, x.ro] ++ [boolB x.rej] ++ zigB x.hint ++ (if x.k = 5 then numB (x.es.length : Int) ++ esB x.es else []) ++ (if x.k = 7 then snapB x.sn.s else [])) := by
    rw [Hid, numsB8]
    unfold msgB MsgV.m esB
    dsimp only
    rw [List.length_map]
  have hl8 : (numsB [x.k, x.fr, x.«to», x.t, x.i, x.lt, x.cm, x.ro]).length ≤ 72 := numsB_len _
  have hlh := zigB_le x.hint
  have hly : (numsB [x.k, x.fr, x.«to», x.t, x.i, x.lt, x.cm, x.ro] ++ [boolB x.rej] ++ zigB x.hint).length ≤ 100 := by rw [List.length_append, List.length_append]; simp; omega
  have kn : Hid (∀ V R, HasI V (.slice (some ⟨R, 0, none⟩) 8 8) [x.k, x.fr, x.«to», x.t, x.i, x.lt, x.cm, x.ro] → Calls Tryz.prog 57 #[.slice none 0 0, .slice (some ⟨R, 0, none⟩) 8 8] V (Outs V (numsB [x.k, x.fr, x.«to», x.t, x.i, x.lt, x.cm, x.ro]))) := fun V R hR => by
    have := rnums_any V (.slice none 0 0) [] [x.k, x.fr, x.«to», x.t, x.i, x.lt, x.cm, x.ro] _ 8 8 (Has.nil _) hR (by omega) (by simp)
    rwa [List.nil_append] at this
  have kb : Hid (∀ W u, Has W u (numsB [x.k, x.fr, x.«to», x.t, x.i, x.lt, x.cm, x.ro]) → Calls Tryz.prog 58 #[u, .bool x.rej] W fun e w' => ∃ v', e = .returned v' ∧ Owns w' W.heap.size 5 v' (numsB [x.k, x.fr, x.«to», x.t, x.i, x.lt, x.cm, x.ro] ++ [boolB x.rej]) ∧ Below W.heap.size W w') := fun W u hu => rputBool_any u _ x.rej W hu (by omega)
  have kh : Hid (∀ V R u, HasI V (.slice (some ⟨R, 0, none⟩) 1 1) [x.hint] → Has V u (numsB [x.k, x.fr, x.«to», x.t, x.i, x.lt, x.cm, x.ro] ++ [boolB x.rej]) → Calls Tryz.prog 57 #[u, .slice (some ⟨R, 0, none⟩) 1 1] V (Outs V (numsB [x.k, x.fr, x.«to», x.t, x.i, x.lt, x.cm, x.ro] ++ [boolB x.rej] ++ zigB x.hint))) := fun V R u hR hu => by
    have := rnums_any V u _ [x.hint] _ 1 1 hu hR (by omega) (by rw [List.length_append]; simp; omega)
    rwa [numsB1] at this
  have HN : Hid (x.es.length = x.w.n) := hF.es.n
  have hn4 : x.w.n ≤ 400 := by rw [← HN.out]; exact hw.es
  have HX : Hid (HasE w x.w x.es) := hF.es
  have HFw : Hid (∀ e ∈ x.es, FewF e.f.f ∧ FewC e.c) := hw.each
  have HTk : Hid (∀ j, (esB (x.es.take j)).length ≤ 40000000) := esB_take hw.each hw.es
  have hnl := numB_le (x.w.n : Int)
  have ke : Hid (∀ W u, Has W u (numsB [x.k, x.fr, x.«to», x.t, x.i, x.lt, x.cm, x.ro] ++ [boolB x.rej] ++ zigB x.hint) → Calls Tryz.prog 59 #[u, .int .u64 (x.w.n : Int)] W fun e w' => ∃ v', e = .returned v' ∧ Owns w' W.heap.size 5 v' (numsB [x.k, x.fr, x.«to», x.t, x.i, x.lt, x.cm, x.ro] ++ [boolB x.rej] ++ zigB x.hint ++ numB (x.w.n : Int)) ∧ Below W.heap.size W w') := fun W u hu => rput_cod u _ (x.w.n : Int) W hu (by omega) (by omega) (by omega)
  have ks : Hid (∀ W u, Below w.heap.size w W → Has W u (numsB [x.k, x.fr, x.«to», x.t, x.i, x.lt, x.cm, x.ro] ++ [boolB x.rej] ++ zigB x.hint) → Calls Tryz.prog 61 #[u, .agg x.sn.arr] W (Outs W (numsB [x.k, x.fr, x.«to», x.t, x.i, x.lt, x.cm, x.ro] ++ [boolB x.rej] ++ zigB x.hint ++ snapB x.sn.s))) := fun W u hb hu => rsnap_any W u _ x.sn hu (hF.sn.below hb) hw.f hw.d (by omega)
  rw [HN.out] at HE
  clear hF hw
  generalize numsB [x.k, x.fr, x.«to», x.t, x.i, x.lt, x.cm, x.ro] ++ [boolB x.rej] ++ zigB x.hint = y3 at *
  generalize numsB [x.k, x.fr, x.«to», x.t, x.i, x.lt, x.cm, x.ro] ++ [boolB x.rej] = y2 at *
  generalize numsB [x.k, x.fr, x.«to», x.t, x.i, x.lt, x.cm, x.ro] = y1 at *
  generalize snapB x.sn.s = sb at *
  generalize hbs : msgB x.m = bs at *
  clear hbs
  obtain ⟨k, fr, too, t, i, lt, cm, ro, rej, hint, ⟨a, b, e⟩, es, ⟨si, st, ⟨⟨p, n, c⟩, ⟨q, m, d⟩, f⟩, ⟨a', b', e'⟩, dd⟩⟩ := x
  unfold MsgV.arr at *
  unfold SnapV.arr at *
  dsimp only at *
  have hr : HasI ((w.alloc (.cells #[.int .i64 k, .int .i64 fr, .int .i64 too, .int .i64 t, .int .i64 i, .int .i64 lt, .int .i64 cm, .int .i64 ro, .bool rej, .int .i64 hint, .slice a b e, .int .i64 si, .int .i64 st, .slice p n c, .slice q m d, .slice a' b' e'] 53)).alloc (.cells #[.int .i64 k, .int .i64 fr, .int .i64 too, .int .i64 t, .int .i64 i, .int .i64 lt, .int .i64 cm, .int .i64 ro] 3)) (.slice (some ⟨(w.alloc (.cells #[.int .i64 k, .int .i64 fr, .int .i64 too, .int .i64 t, .int .i64 i, .int .i64 lt, .int .i64 cm, .int .i64 ro, .bool rej, .int .i64 hint, .slice a b e, .int .i64 si, .int .i64 st, .slice p n c, .slice q m d, .slice a' b' e'] 53)).heap.size, 0, none⟩) 8 8) [k, fr, too, t, i, lt, cm, ro] := HasI.lit (w.alloc (.cells #[.int .i64 k, .int .i64 fr, .int .i64 too, .int .i64 t, .int .i64 i, .int .i64 lt, .int .i64 cm, .int .i64 ro, .bool rej, .int .i64 hint, .slice a b e, .int .i64 si, .int .i64 st, .slice p n c, .slice q m d, .slice a' b' e'] 53)) [k, fr, too, t, i, lt, cm, ro] 3
  have hb2 := (Below.refl _ (w.alloc (.cells #[.int .i64 k, .int .i64 fr, .int .i64 too, .int .i64 t, .int .i64 i, .int .i64 lt, .int .i64 cm, .int .i64 ro, .bool rej, .int .i64 hint, .slice a b e, .int .i64 si, .int .i64 st, .slice p n c, .slice q m d, .slice a' b' e'] 53))).alloc (Nat.le_refl _) (.cells #[.int .i64 k, .int .i64 fr, .int .i64 too, .int .i64 t, .int .i64 i, .int .i64 lt, .int .i64 cm, .int .i64 ro] 3)
  rw [hz1] at hr
  have hB2 := hb1.trans (hb2.mono hb1.size)
  have k1 := kn.out _ (w.heap.size + 1) hr
  have hbox2 := box_below hbox hb2
  clear hbox hr kn hb2 hb1 hz1
  go_enter Tryz.func21, Tryz.ntmps21
  go_wp2_with fail
  generalize (w.alloc (.cells #[.int .i64 k, .int .i64 fr, .int .i64 too, .int .i64 t, .int .i64 i, .int .i64 lt, .int .i64 cm, .int .i64 ro, .bool rej, .int .i64 hint, .slice a b e, .int .i64 si, .int .i64 st, .slice p n c, .slice q m d, .slice a' b' e'] 53)).alloc (.cells #[.int .i64 k, .int .i64 fr, .int .i64 too, .int .i64 t, .int .i64 i, .int .i64 lt, .int .i64 cm, .int .i64 ro] 3) = W2 at *
  refine k1.mono ?_
  rintro _ w3 ⟨v3, rfl, ho3, hb3⟩
  have hB3 := hB2.trans (hb3.mono hB2.size)
  have hbox3 : MsgAt w3 w.heap.size ⟨k, fr, too, t, i, lt, cm, ro, rej, hint, ⟨a, b, e⟩, es, ⟨si, st, ⟨⟨p, n, c⟩, ⟨q, m, d⟩, f⟩, ⟨a', b', e'⟩, dd⟩⟩ := box_below hbox2 hb3
  clear k1 hbox2 hb3 hB2
  have c8 := box_cell hbox3 8
  have c9 := box_cell hbox3 9
  dsimp only [MsgV.arr] at c8 c9
  have hlt := box_lt hbox3
  obtain ⟨p3, q3, rfl, -, -, -⟩ := id ho3
  generalize y1.length = n3 at *
  go_upto_region 2 with fail
  generalize hbb : w.heap.size = bx at *
  have Hbb : Hid (w.heap.size = bx) := hbb
  clear hbb
  have HB3 : Hid (Below bx w w3) := hB3
  have HO3 : Hid (∀ W, Below w3.heap.size w3 W → Has W (.slice p3 n3 q3) y1) := fun W hb => ho3.below hb (Nat.le_refl _)
  have s0 := keepM0 c8 c9
  have hlA : Hid (HasI (w3.alloc (.cells #[.int .i64 hint] 3)).drew (.slice (some ⟨w3.heap.size, 0, none⟩) 1 1) [hint]) := HasI.lit w3 [hint] 3
  have hlB : Hid (∀ W4 : World, HasI (W4.alloc (.cells #[.int .i64 hint] 3)) (.slice (some ⟨W4.heap.size, 0, none⟩) 1 1) [hint]) := fun W4 => HasI.lit W4 [hint] 3
  clear hB3
  go_region_held3 (fun w' => w'.cell? ⟨bx, 8, none⟩ = some (.bool rej) ∧ w'.cell? ⟨bx, 9, none⟩ = some (.int .i64 hint) ∧ Below w3.heap.size w3 w')
    (first | exact s0 | assumption | exact keepM hlt (by assumption) (by assumption) | exact keepM hlt (by assumption) ((Below.refl _ _).alloc (Nat.le_refl _) _))
    (first
      | (go_at_call 58; (with_reducible refine Calls.mono (kb.out _ _ (HO3.out _ (keepMB (by assumption)))) ?_); rintro e4 w4 ⟨v4, rfl, ho4, hb4⟩; obtain ⟨p4, q4, rfl, -, -, -⟩ := id ho4.has)
      | (go_at_call 57; (with_reducible refine Calls.mono (kh.out _ _ _ (hlA.out.below hb4 (Nat.le_refl _)) ho4.has) ?_); rintro e5 w5 ⟨v5, rfl, ho5, hb5⟩)
      | (go_at_call 57; (with_reducible refine Calls.mono (kh.out _ _ _ (hlB.out w4) (ho4.has.below ((Below.refl _ _).alloc (Nat.le_refl _) _) (Nat.le_refl _))) ?_); rintro e5 w5 ⟨v5, rfl, ho5, hb5⟩))
  all_goals
    have hW : Below w3.heap.size w3 w5 := keepMB (by assumption)
    have hbox5 : MsgAt w5 bx ⟨k, fr, too, t, i, lt, cm, ro, rej, hint, ⟨a, b, e⟩, es, ⟨si, st, ⟨⟨p, n, c⟩, ⟨q, m, d⟩, f⟩, ⟨a', b', e'⟩, dd⟩⟩ := box_below hbox3 hW
    have hB5 : Below w.heap.size w w5 := by rw [Hbb.out]; exact HB3.out.trans (hW.mono (by rw [← Hbb.out]; exact HB3.out.size))
    have c0 := box_cell hbox5 0
    have c10 := box_cell hbox5 10
    have c11 := box_cell hbox5 11
    have c12 := box_cell hbox5 12
    have c13 := box_cell hbox5 13
    have c14 := box_cell hbox5 14
    have c15 := box_cell hbox5 15
    dsimp only [MsgV.arr] at c0 c10 c11 c12 c13 c14 c15
    have hl5 := box_lt hbox5
    clear hW s0 hlA hlB c8 c9 hlt ho4 hb4 hb5 hbox3 HO3 HB3 kb kh ho3
    by_cases h5 : k = 5
    · have HB : Hid (bs = y3 ++ numB (b : Int) ++ esB es) := by rw [Hid, HE.out, if_pos h5, if_neg (by omega), List.append_nil, ← List.append_assoc]
      subst h5
      have k6 := ke.out w5 _ ho5
      clear ks ke HE ho5
      go_wp2_with fail
      refine k6.mono ?_
      rintro _ w6 ⟨v6, rfl, ho6, hb6⟩
      have hbox6 : MsgAt w6 bx ⟨5, fr, too, t, i, lt, cm, ro, rej, hint, ⟨a, b, e⟩, es, ⟨si, st, ⟨⟨p, n, c⟩, ⟨q, m, d⟩, f⟩, ⟨a', b', e'⟩, dd⟩⟩ := box_below hbox5 hb6
      have hB6 := hB5.trans (hb6.mono hB5.size)
      have hP6 := ho6.has
      clear k6 hbox5 hb6 hB5 hl5 c0 c10 c11 c12 c13 c14 c15 ho6
      have c0 := box_cell hbox6 0
      have c10 := box_cell hbox6 10
      dsimp only [MsgV.arr] at c0 c10
      have hl6 := box_lt hbox6
      go_wp2
      go_loopw [3, 44] (fun s3 s44 wr => ∃ (j : Nat) (u : Value), u = s3 ∧ j ≤ b ∧ s44 = .int .i64 (j : Nat) ∧ Has wr u (y3 ++ numB (b : Int) ++ esB (es.take j)) ∧ Below w6.heap.size w6 wr) (fun _ s44 _ => b - (intOf s44).toNat)
      case atStart => exact ⟨0, _, rfl, Nat.zero_le _, rfl, by rw [List.take_zero, show esB [] = [] from rfl, List.append_nil]; exact hP6, Below.refl _ _⟩
      case round =>
        clear hP6 c0 c10 hl6
        obtain ⟨j, u, hu, hj, rfl, hP, hb⟩ := hrel
        subst hu
        have hBr := hB6.trans (hb.mono hB6.size)
        have hboxr : MsgAt wr bx ⟨5, fr, too, t, i, lt, cm, ro, rej, hint, ⟨a, b, e⟩, es, ⟨si, st, ⟨⟨p, n, c⟩, ⟨q, m, d⟩, f⟩, ⟨a', b', e'⟩, dd⟩⟩ := box_below hbox6 hb
        by_cases hlt : j < b
        · obtain ⟨bb, o, x, hp, hbl, Hx, hmem, hfit, g0, g1, g2, g3, g4, g5, g6, g7, g8, g9, g10, g11, g12⟩ := (HX.out.below hBr).at (j := j) hlt
          dsimp only at hp
          subst hp
          have HS : Hid (esB (es.take (j + 1)) = esB (es.take j) ++ entB x.e) := by rw [Hid, Hx]; exact esB_snoc (by rw [HN.out]; exact hlt)
          have hlen := HTk.out j
          have hba : Below wr.heap.size wr (wr.alloc (.cells x.arr 30)) := (Below.refl _ _).alloc (Nat.le_refl _) _
          have hff := HFw.out x hmem
          have kp := rentry_any _ u _ x (hP.below hba (Nat.le_refl _)) (hfit.f.below hba) hff.1 hff.2 (by rw [List.length_append, List.length_append]; omega)
          have hbA := hb.trans (hba.mono hb.size)
          generalize entB x.e = eb at *
          clear hP Hx hmem hfit hff hba hboxr hbox6
          obtain ⟨xi, xt, xk, ⟨ck, cs, cq, ckey, cold, cval, cunt, clim⟩, ⟨⟨p1, n1, c1⟩, ⟨q1, m1, d1⟩, f1⟩⟩ := x
          unfold EntV.arr at *
          dsimp only at *
          go_wp2_with fail
          generalize wr.alloc (.cells #[.int .i64 xi, .int .i64 xt, .int .i64 xk, .int .i64 ck, .int .i64 cs, .int .i64 cq, .string ckey, .string cold, .string cval, .string cunt, .int .i64 clim, .slice p1 n1 c1, .slice q1 m1 d1] 30) = W9 at *
          refine kp.mono ?_
          rintro e9 w9 ⟨v9, rfl, ho9, hb9⟩
          clear kp g0 g1 g2 g3 g4 g5 g6 g7 g8 g9 g10 g11 g12
          go_wp2
          go_roundw
          case rel => exact ⟨j + 1, _, rfl, by omega, by go_num, by rw [HS.out, ← List.append_assoc]; exact ho9, hbA.trans (hb9.mono hbA.size)⟩
          case measure => simp only [intOf]; omega
        · rw [List.take_of_length_le (by rw [HN.out]; omega)] at hP
          have c0 := box_cell hboxr 0
          dsimp only [MsgV.arr] at c0
          have hlr := box_lt hboxr
          go_wp2
          go_ret
          exact ⟨_, rfl, by rw [HB.out]; exact hP, by rw [Hbb.out] at hBr ⊢; exact hBr⟩
    have e5 : (k == 5) = false := by simpa using h5
    by_cases h7 : k = 7
    · have k6 := ks.out w5 _ (by rw [← Hbb.out]; exact hB5) ho5
      have HB : Hid (bs = y3 ++ sb) := by rw [Hid, HE.out, if_neg h5, if_pos h7, List.append_nil]
      subst h7
      clear ks ke HE ho5 e5 h5
      go_wp2_with fail
      refine k6.mono ?_
      rintro _ w6 ⟨v6, rfl, ho6, hb6⟩
      have hB6 := hB5.trans (hb6.mono hB5.size)
      go_wp2
      go_ret
      exact ⟨_, rfl, by rw [HB.out]; exact ho6, hB6⟩
    have e7 : (k == 7) = false := by simpa using h7
    have HB : Hid (bs = y3) := by rw [Hid, HE.out, if_neg h5, if_neg h7, List.append_nil, List.append_nil]
    clear ks ke HE h5 h7
    go_wp2
    go_ret
    exact ⟨_, rfl, by rw [HB.out]; exact ho5, hB5⟩
end Go.Proofs.YtnbaoimjcaeeaaaGreat
