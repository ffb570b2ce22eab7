import Derived.Test.YtnbaoimjcaeeaaaEn2To
import Derived.Test.YtnbaoimjcaeeaaaEnVTo
import Derived.Test.YtnbaoimjcaeeaaaCmBTo
/-
  Contracts: entry.putConf, putEntry, putSnap, Bytes, HardBytes, SnapBytes.
-/
namespace Go.Proofs.Ytnbaoimjcaeeaaa
open Go.RowKit

/-- What is few enough to be written. -/
def FewF (c : Conf10) : Prop := c.vs.length ≤ 1000 ∧ c.ls.length ≤ 1000
def FewC (c : Cmd9) : Prop := c.key.size ≤ 20000 ∧ c.old.size ≤ 20000 ∧ c.val.size ≤ 20000 ∧ c.unt.size ≤ 20000
theorem listB_len (l : List Int) : (listB l).length ≤ 9 + 9 * l.length := by
  unfold listB
  have := numB_le (l.length : Int)
  have := numsB_len l
  rw [List.length_append]
  omega
theorem confB_len {c : Conf10} (h : FewF c) : (confB c).length ≤ 18018 := by
  unfold confB
  have := listB_len c.vs
  have := listB_len c.ls
  obtain ⟨h1, h2⟩ := h
  rw [List.length_append]
  omega
theorem cmdB_few {c : Cmd9} (h : FewC c) : (cmdB c).length ≤ 80072 := by
  have := cmdB_length c
  obtain ⟨h1, h2, h3, h4⟩ := h
  omega
theorem bytB_len (xs : List Int) : (bytB xs).length ≤ 9 + xs.length := by
  unfold bytB
  have := numB_le (xs.length : Int)
  rw [List.length_append]
  omega
theorem entB_len {e : Ent10} (h : FewC e.c) (hf : FewF e.f) : (entB e).length ≤ 100000 := by
  unfold entB
  have h1 := zigB_le e.i
  have h2 := zigB_le e.t
  have h3 := zigB_le e.k
  have h4 := cmdB_few h
  have h5 := bytB_len (cmdB e.c)
  have h6 := confB_len hf
  simp only [List.length_append]
  split <;> split <;> (try simp only [List.length_nil]) <;> omega

set_option maxRecDepth 100000 in
set_option maxHeartbeats 1500000 in
theorem putConf_any (w0 w : World) (v : Value) (xs : List Int) (x : ConfV) (h : Put10 w0 w v xs) (hF : FitsF w0 x) (hf : FewF x.f) (hl : xs.length ≤ 1073600000) :
    Calls Try.prog 73 #[v, .agg x.arr] w (Puts w0 w (xs ++ confB x.f)) := by
  have hb1 : Below w.heap.size w (w.alloc (.cells x.arr 26)) := (Below.refl _ _).alloc (Nat.le_refl _) _
  have hbox : ConfAt (w.alloc (.cells x.arr 26)) w.heap.size x := heap_alloc_new w _
  have hn1 := hF.u.len.1
  have hn2 := hF.v.len.1
  obtain ⟨f1, f2⟩ := hf
  have HC : Hid (confB x.f = listB x.f.vs ++ listB x.f.ls) := rfl
  have k1 := putListI_any w0 (w.alloc (.cells x.arr 26)) v xs x.f.vs _ _ _ (h.more hb1) hF.u (by omega) (by omega)
  have hll := listB_len x.f.vs
  have k2 := fun W u (hP : Put10 w0 W u (xs ++ listB x.f.vs)) => putListI_any w0 W u (xs ++ listB x.f.vs) x.f.ls _ _ _ hP hF.v (by omega) (by rw [List.length_append]; omega)
  have K2 : Hid _ := k2
  generalize confB x.f = bs at *
  generalize listB x.f.vs = l1 at *
  generalize listB x.f.ls = l2 at *
  obtain ⟨⟨p, n, c⟩, ⟨q, m, d⟩, f⟩ := x
  unfold ConfV.arr at *
  dsimp only at *
  clear hF hn1 hn2 h k2
  go_enter Try.func73, Try.ntmps73
  go_wp2_with fail
  generalize w.alloc (.cells #[.slice p n c, .slice q m d] 26) = W1 at *
  refine k1.mono ?_
  rintro e w2 ⟨v2, rfl, hP2, hk2⟩
  have hbox2 : ConfAt w2 w.heap.size ⟨⟨p, n, c⟩, ⟨q, m, d⟩, f⟩ := hk2 _ _ _ _ hbox (by decide)
  obtain ⟨c0, c1⟩ := hbox2.cells
  dsimp only at c0 c1
  have hlt := box_lt hbox2
  have k3 := K2.out w2 v2 hP2
  clear k1 hbox
  go_wp2_with fail
  refine k3.mono ?_
  rintro e w3 ⟨v3, rfl, hP3, hk3⟩
  go_wp2
  go_ret
  exact ⟨_, rfl, by rw [HC.out, ← List.append_assoc]; exact hP3, ((Kin8.below hb1).trans hk2).trans hk3⟩

set_option maxRecDepth 100000 in
set_option maxHeartbeats 2000000 in
theorem putEntry_any (w0 w : World) (v : Value) (xs : List Int) (x : EntV) (h : Put10 w0 w v xs) (hF : FitsF w0 x.f) (hf : FewF x.f.f) (hc : FewC x.c) (hl : xs.length ≤ 1073000000) :
    Calls Try.prog 40 #[v, .agg x.arr] w (Puts w0 w (xs ++ entB x.e)) := by
  have hb1 : Below w.heap.size w (w.alloc (.cells x.arr 28)) := (Below.refl _ _).alloc (Nat.le_refl _) _
  have hbox : EntAt (w.alloc (.cells x.arr 28)) w.heap.size x := heap_alloc_new w _
  have hz1 : (w.alloc (.cells x.arr 28)).heap.size = w.heap.size + 1 := by simp
  have hP1 := h.more hb1
  have HE : Hid (entB x.e = zigB x.i ++ zigB x.t ++ zigB x.k ++ (if x.k = 2 then bytB (cmdB x.c) else []) ++ (if x.k = 3 then confB x.f.f else [])) := rfl
  have HN : Hid (numsB [x.i, x.t, x.k] = zigB x.i ++ zigB x.t ++ zigB x.k) := by simp [Hid, numsB]
  have hl1 : (numsB [x.i, x.t, x.k]).length ≤ 27 := numsB_len _
  have kb := fun W => bytes20_any x.c W hc
  have hcl := cmdB_few hc
  have kt : Hid (∀ W u t, Put10 w0 W u (xs ++ numsB [x.i, x.t, x.k]) → Has W t (cmdB x.c) → Calls Try.prog 71 #[u, t] W (Puts w0 W (xs ++ numsB [x.i, x.t, x.k] ++ bytB (cmdB x.c)))) := fun W u t hP ht => putTextE_any w0 W u t _ _ hP ht (cmdB_isB _) (by rw [List.length_append]; omega) (by omega)
  have kf : Hid (∀ W u, Put10 w0 W u (xs ++ numsB [x.i, x.t, x.k]) → Calls Try.prog 73 #[u, .agg x.f.arr] W (Puts w0 W (xs ++ numsB [x.i, x.t, x.k] ++ confB x.f.f))) := fun W u hP => putConf_any w0 W u _ x.f hP hF hf (by rw [List.length_append]; omega)
  have kn := fun W (hP : Put10 w0 W v xs) R (hR : W.heap[R]? = some (.cells ([x.i, x.t, x.k].map (Value.int .i64)).toArray 3 (0, 0))) => putNumbers_any w0 W v xs [x.i, x.t, x.k] R 3 hP hR rfl (by omega) (by omega)
  have HKN : Hid _ := kn
  clear kn h hl hcl hc hf hF
  generalize numsB [x.i, x.t, x.k] = ns at *
  generalize cmdB x.c = cb at *
  generalize confB x.f.f = fb at *
  generalize hbs : entB x.e = bs at *
  clear hbs
  obtain ⟨i, t, k, ⟨ck, cs, cq, ckey, cold, cval, cunt, clim⟩, ⟨⟨p, n, c⟩, ⟨q, m, d⟩, f⟩⟩ := x
  unfold EntV.arr ConfV.arr Cmd9.arr at *
  dsimp only at *
  have hr := heap_alloc_new (w.alloc (.cells #[.int .i64 i, .int .i64 t, .int .i64 k, .int .i64 ck, .int .i64 cs, .int .i64 cq, .string ckey, .string cold, .string cval, .string cunt, .int .i64 clim, .slice p n c, .slice q m d] 28)) (.cells #[.int .i64 i, .int .i64 t, .int .i64 k] 3)
  have hb2 := (Below.refl _ (w.alloc (.cells #[.int .i64 i, .int .i64 t, .int .i64 k, .int .i64 ck, .int .i64 cs, .int .i64 cq, .string ckey, .string cold, .string cval, .string cunt, .int .i64 clim, .slice p n c, .slice q m d] 28))).alloc (Nat.le_refl _) (.cells #[.int .i64 i, .int .i64 t, .int .i64 k] 3)
  rw [hz1] at hr
  have hP2 := hP1.more hb2
  have k1 := HKN.out _ hP2 (w.heap.size + 1) hr
  have hbox2 := box_below hbox hb2
  have hkk := (Kin8.below hb1).trans (Kin8.below hb2)
  clear hP1 hbox hr HKN hP2 hb2
  go_enter Try.func40, Try.ntmps40
  go_wp2_with fail
  generalize (w.alloc (.cells #[.int .i64 i, .int .i64 t, .int .i64 k, .int .i64 ck, .int .i64 cs, .int .i64 cq, .string ckey, .string cold, .string cval, .string cunt, .int .i64 clim, .slice p n c, .slice q m d] 28)).alloc (.cells #[.int .i64 i, .int .i64 t, .int .i64 k] 3) = W2 at *
  refine k1.mono ?_
  rintro e w3 ⟨v3, rfl, hP3, hk3⟩
  have hbox3 : EntAt w3 w.heap.size ⟨i, t, k, ⟨ck, cs, cq, ckey, cold, cval, cunt, clim⟩, ⟨⟨p, n, c⟩, ⟨q, m, d⟩, f⟩⟩ := hk3 _ _ _ _ hbox2 (by decide)
  obtain ⟨c0, c1, c2, c3, c4, c5, c6, c7, c8, c9, c10, c11, c12⟩ := hbox3.cells
  dsimp only at c0 c1 c2 c3 c4 c5 c6 c7 c8 c9 c10 c11 c12
  have hlt := box_lt hbox3
  have hk4 := hkk.trans hk3
  clear k1 hbox2 hkk hk3 hb1
  by_cases h2 : k = 2
  · have HE2 : Hid (xs ++ bs = xs ++ ns ++ bytB cb) := by rw [Hid, HE.out, ← HN.out, if_pos h2, if_neg (by omega), List.append_nil, List.append_assoc]
    subst h2
    clear HE
    go_wp2_with fail
    refine (kb _).mono ?_
    rintro e w4 ⟨v4, rfl, ho4, hb4⟩
    have k5 := kt.out w4 v3 v4 (hP3.more hb4) ho4.has
    have hk5 := hk4.trans (Kin8.below hb4)
    clear kb c0 c1 c2 c3 c4 c5 c6 c7 c8 c9 c10 c11 c12
    go_wp2_with fail
    refine k5.mono ?_
    rintro e w5 ⟨v5, rfl, hP5, hk6⟩
    go_wp2
    go_ret
    exact ⟨_, rfl, by rw [HE2.out]; exact hP5, hk5.trans hk6⟩
  · have e2 : (k == 2) = false := by simpa using h2
    by_cases h3 : k = 3
    · have HE2 : Hid (xs ++ bs = xs ++ ns ++ fb) := by rw [Hid, HE.out, ← HN.out, if_neg h2, if_pos h3, List.append_nil, List.append_assoc]
      subst h3
      have k5 := kf.out w3 v3 hP3
      clear HE kb
      go_wp2_with fail
      refine k5.mono ?_
      rintro e w5 ⟨v5, rfl, hP5, hk6⟩
      go_wp2
      go_ret
      exact ⟨_, rfl, by rw [HE2.out]; exact hP5, hk4.trans hk6⟩
    · have HE2 : Hid (xs ++ bs = xs ++ ns) := by rw [Hid, HE.out, ← HN.out, if_neg h2, if_neg h3, List.append_nil, List.append_nil]
      have e3 : (k == 3) = false := by simpa using h3
      clear HE kb
      go_wp2
      go_ret
      exact ⟨_, rfl, by rw [HE2.out]; exact hP3, hk4⟩

set_option maxRecDepth 100000 in
set_option maxHeartbeats 1500000 in
theorem bytesE_any (w : World) (x : EntV) (hF : FitsF w x.f) (hf : FewF x.f.f) (hc : FewC x.c) :
    Calls Try.prog 14 #[.agg x.arr] w fun e w' => ∃ v, e = .returned v ∧ Owns w' w.heap.size 5 v (entB x.e) ∧ Below w.heap.size w w' := by
  have hb1 : Below w.heap.size w (w.alloc (.cells x.arr 28)) := (Below.refl _ _).alloc (Nat.le_refl _) _
  have k1 := putEntry_any w (w.alloc (.cells x.arr 28)) (.slice none 0 0) [] x ((Put10.nil w).more hb1) hF hf hc (by simp)
  rw [List.nil_append] at k1
  generalize entB x.e = bs at *
  obtain ⟨i, t, k, ⟨ck, cs, cq, ckey, cold, cval, cunt, clim⟩, ⟨⟨p, n, c⟩, ⟨q, m, d⟩, f⟩⟩ := x
  unfold EntV.arr at *
  dsimp only at *
  go_enter Try.func14, Try.ntmps14
  go_wp2_with fail
  refine k1.mono ?_
  rintro e w3 ⟨v3, rfl, hP3, hk3⟩
  go_wp2
  go_ret
  exact ⟨_, rfl, hP3.own, hP3.bel⟩

set_option maxRecDepth 100000 in
set_option maxHeartbeats 1500000 in
theorem bytesH_any (w : World) (x : Hard10) :
    Calls Try.prog 25 #[.agg x.arr] w fun e w' => ∃ v, e = .returned v ∧ Owns w' w.heap.size 5 v (hardB x) ∧ Below w.heap.size w w' := by
  have hb1 : Below w.heap.size w (w.alloc (.cells x.arr 41)) := (Below.refl _ _).alloc (Nat.le_refl _) _
  have hz1 : (w.alloc (.cells x.arr 41)).heap.size = w.heap.size + 1 := by simp
  have HN : Hid (hardB x = numsB [x.t, x.v, x.c]) := by simp [Hid, numsB, hardB]
  have hr := heap_alloc_new (w.alloc (.cells x.arr 41)) (.cells #[.int .i64 x.t, .int .i64 x.v, .int .i64 x.c] 3)
  have hb2 := (Below.refl _ (w.alloc (.cells x.arr 41))).alloc (Nat.le_refl _) (.cells #[.int .i64 x.t, .int .i64 x.v, .int .i64 x.c] 3)
  rw [hz1] at hr
  have k1 := putNumbers_any w _ (.slice none 0 0) [] [x.t, x.v, x.c] (w.heap.size + 1) 3 (((Put10.nil w).more hb1).more hb2) hr rfl (by omega) (by simp)
  rw [List.nil_append, ← HN.out] at k1
  clear HN hr hb2 hb1 hz1
  generalize hardB x = bs at *
  obtain ⟨t, v, c⟩ := x
  unfold Hard10.arr at *
  dsimp only at *
  go_enter Try.func25, Try.ntmps25
  go_wp2_with fail
  refine k1.mono ?_
  rintro e w3 ⟨v3, rfl, hP3, hk3⟩
  go_wp2
  go_ret
  exact ⟨_, rfl, hP3.own, hP3.bel⟩

set_option maxRecDepth 100000 in
set_option maxHeartbeats 2000000 in
theorem putSnap_any (w0 w : World) (v : Value) (xs : List Int) (x : SnapV) (h : Put10 w0 w v xs) (hF : FitsS w0 x) (hf : FewF x.f.f) (hd : x.d.length ≤ 1000000) (hl : xs.length ≤ 1073000000) :
    Calls Try.prog 44 #[v, .agg x.arr] w (Puts w0 w (xs ++ snapB x.s)) := by
  have hb1 : Below w.heap.size w (w.alloc (.cells x.arr 39)) := (Below.refl _ _).alloc (Nat.le_refl _) _
  have hbox : SnapAt (w.alloc (.cells x.arr 39)) w.heap.size x := heap_alloc_new w _
  have hz1 : (w.alloc (.cells x.arr 39)).heap.size = w.heap.size + 1 := by simp
  have hP1 := h.more hb1
  have HN : Hid (numsB [x.i, x.t] = zigB x.i ++ zigB x.t) := by simp [Hid, numsB]
  have HE : Hid (xs ++ snapB x.s = xs ++ numsB [x.i, x.t] ++ confB x.f.f ++ bytB x.d) := by
    rw [Hid, HN.out]
    unfold snapB SnapV.s
    dsimp only
    simp only [List.append_assoc]
  have hl1 : (numsB [x.i, x.t]).length ≤ 18 := numsB_len _
  have hl2 := confB_len hf
  have kt : Hid (∀ W u t, Put10 w0 W u (xs ++ numsB [x.i, x.t] ++ confB x.f.f) → Has W t x.d → Calls Try.prog 71 #[u, t] W (Puts w0 W (xs ++ numsB [x.i, x.t] ++ confB x.f.f ++ bytB x.d))) := fun W u t hP ht => putTextE_any w0 W u t _ _ hP ht hF.b (by rw [List.length_append, List.length_append]; omega) (by omega)
  have kf : Hid (∀ W u, Put10 w0 W u (xs ++ numsB [x.i, x.t]) → Calls Try.prog 73 #[u, .agg x.f.arr] W (Puts w0 W (xs ++ numsB [x.i, x.t] ++ confB x.f.f))) := fun W u hP => putConf_any w0 W u _ x.f hP hF.f hf (by rw [List.length_append]; omega)
  have kn := fun W (hP : Put10 w0 W v xs) R (hR : W.heap[R]? = some (.cells ([x.i, x.t].map (Value.int .i64)).toArray 3 (0, 0))) => putNumbers_any w0 W v xs [x.i, x.t] R 2 hP hR rfl (by omega) (by omega)
  have HKN : Hid _ := kn
  have HD : Hid (Has w0 (.slice x.w.p x.w.n x.w.c) x.d) := hF.w
  clear kn h hl hd hf hF HN
  generalize numsB [x.i, x.t] = ns at *
  generalize confB x.f.f = fb at *
  generalize hbs : snapB x.s = bs at *
  clear hbs
  obtain ⟨i, t, ⟨⟨p, n, c⟩, ⟨q, m, d⟩, f⟩, ⟨a, b, e⟩, dd⟩ := x
  unfold SnapV.arr ConfV.arr at *
  dsimp only at *
  have hr := heap_alloc_new (w.alloc (.cells #[.int .i64 i, .int .i64 t, .slice p n c, .slice q m d, .slice a b e] 39)) (.cells #[.int .i64 i, .int .i64 t] 3)
  have hb2 := (Below.refl _ (w.alloc (.cells #[.int .i64 i, .int .i64 t, .slice p n c, .slice q m d, .slice a b e] 39))).alloc (Nat.le_refl _) (.cells #[.int .i64 i, .int .i64 t] 3)
  rw [hz1] at hr
  have hP2 := hP1.more hb2
  have k1 := HKN.out _ hP2 (w.heap.size + 1) hr
  have hbox2 := box_below hbox hb2
  have hkk := (Kin8.below hb1).trans (Kin8.below hb2)
  clear hP1 hbox hr HKN hP2 hb2
  go_enter Try.func44, Try.ntmps44
  go_wp2_with fail
  generalize (w.alloc (.cells #[.int .i64 i, .int .i64 t, .slice p n c, .slice q m d, .slice a b e] 39)).alloc (.cells #[.int .i64 i, .int .i64 t] 3) = W2 at *
  refine k1.mono ?_
  rintro e' w3 ⟨v3, rfl, hP3, hk3⟩
  have hbox3 : SnapAt w3 w.heap.size ⟨i, t, ⟨⟨p, n, c⟩, ⟨q, m, d⟩, f⟩, ⟨a, b, e⟩, dd⟩ := hk3 _ _ _ _ hbox2 (by decide)
  obtain ⟨c0, c1, c2, c3, c4⟩ := hbox3.cells
  dsimp only at c0 c1 c2 c3 c4
  have hlt := box_lt hbox3
  have hk4 := hkk.trans hk3
  have k5 := kf.out w3 v3 hP3
  clear k1 hbox2 hkk hk3 hb1
  go_wp2_with fail
  refine k5.mono ?_
  rintro e' w5 ⟨v5, rfl, hP5, hk5⟩
  have hbox5 : SnapAt w5 w.heap.size ⟨i, t, ⟨⟨p, n, c⟩, ⟨q, m, d⟩, f⟩, ⟨a, b, e⟩, dd⟩ := hk5 _ _ _ _ hbox3 (by decide)
  have k6 := kt.out w5 v5 (.slice a b e) hP5 (HD.out.below hP5.bel (Nat.le_refl _))
  clear c0 c1 c2 c3 c4 k5 hbox3 hlt
  obtain ⟨c0, c1, c2, c3, c4⟩ := hbox5.cells
  dsimp only at c0 c1 c2 c3 c4
  have hlt := box_lt hbox5
  go_wp2_with fail
  refine k6.mono ?_
  rintro e' w6 ⟨v6, rfl, hP6, hk6⟩
  go_wp2
  go_ret
  exact ⟨_, rfl, by rw [HE.out]; exact hP6, (hk4.trans hk5).trans hk6⟩

set_option maxRecDepth 100000 in
set_option maxHeartbeats 1500000 in
theorem bytesS_any (w : World) (x : SnapV) (hF : FitsS w x) (hf : FewF x.f.f) (hd : x.d.length ≤ 1000000) :
    Calls Try.prog 23 #[.agg x.arr] w fun e w' => ∃ v, e = .returned v ∧ Owns w' w.heap.size 5 v (snapB x.s) ∧ Below w.heap.size w w' := by
  have hb1 : Below w.heap.size w (w.alloc (.cells x.arr 39)) := (Below.refl _ _).alloc (Nat.le_refl _) _
  have k1 := putSnap_any w (w.alloc (.cells x.arr 39)) (.slice none 0 0) [] x ((Put10.nil w).more hb1) hF hf hd (by simp)
  rw [List.nil_append] at k1
  generalize snapB x.s = bs at *
  obtain ⟨i, t, ⟨⟨p, n, c⟩, ⟨q, m, d⟩, f⟩, ⟨a, b, e⟩, dd⟩ := x
  unfold SnapV.arr at *
  dsimp only at *
  clear hF hf hd
  go_enter Try.func23, Try.ntmps23
  go_wp2_with fail
  refine k1.mono ?_
  rintro e w3 ⟨v3, rfl, hP3, hk3⟩
  go_wp2
  go_ret
  exact ⟨_, rfl, hP3.own, hP3.bel⟩
end Go.Proofs.Ytnbaoimjcaeeaaa

/-
  Contracts: entry.isNode, rise, apart, GoodConf; slices.Index, Contains, IndexFunc, ContainsFunc at ints.
-/
namespace Go.Proofs.Ytnbaoimjcaeeaaa
open Go.RowKit

def isNode10 (n : Int) : Bool := decide (1 ≤ n ∧ n ≤ 9)
def okAt10 (l : List Int) (i : Nat) : Bool := decide (1 ≤ l.getD i 0) && decide (l.getD i 0 ≤ 9) && (decide (i = 0) || decide (l.getD (i - 1) 0 < l.getD i 0))
theorem rises10_is (l : List Int) : rises10 l = (List.range l.length).all (okAt10 l) := rfl
theorem rises10_no {l : List Int} {i : Nat} (hi : i < l.length) (h : okAt10 l i = false) : rises10 l = false := by
  cases hr : rises10 l with
  | false => rfl
  | true =>
    rw [rises10_is, List.all_eq_true] at hr
    have := hr i (List.mem_range.2 hi)
    rw [h] at this
    cases this
theorem rises10_yes {l : List Int} (h : ∀ i, i < l.length → okAt10 l i = true) : rises10 l = true := by
  rw [rises10_is, List.all_eq_true]
  exact fun i hi => h i (List.mem_range.1 hi)
theorem okAt10_iff (l : List Int) (i : Nat) : okAt10 l i = true ↔ (1 ≤ l.getD i 0 ∧ l.getD i 0 ≤ 9) ∧ (i = 0 ∨ l.getD (i - 1) 0 < l.getD i 0) := by
  unfold okAt10
  simp only [Bool.and_eq_true, Bool.or_eq_true, decide_eq_true_eq]
def last10 (l : List Int) (j : Nat) : Int := if j = 0 then 0 else l.getD (j - 1) 0
theorem okAt10_last (l : List Int) (j : Nat) : okAt10 l j = (isNode10 (l.getD j 0) && !decide (l.getD j 0 ≤ last10 l j)) := by
  rw [Bool.eq_iff_iff, okAt10_iff]
  unfold isNode10 last10
  simp only [Bool.and_eq_true, decide_eq_true_eq, Bool.not_eq_true', decide_eq_false_iff_not]
  by_cases h : j = 0
  · rw [if_pos h]; omega
  · rw [if_neg h]; omega
set_option maxRecDepth 100000 in
theorem isNode_any (n : Int) (w : World) : Calls Try.prog 56 #[.int .i64 n] w fun e w' => e = .returned (.bool (isNode10 n)) ∧ w' = w := by
  by_cases h0 : 1 ≤ n
  · have HK : Hid (isNode10 n = decide (n ≤ 9)) := by
      show _ = _
      unfold isNode10
      rw [decide_eq_decide]
      omega
    go_enter Try.func56, Try.ntmps56
    go_wp2
    go_ret
    rw [HK.out]
    exact ⟨rfl, rfl⟩
  · have HK : Hid (isNode10 n = false) := by
      show _ = _
      unfold isNode10
      exact decide_eq_false (by omega)
    go_enter Try.func56, Try.ntmps56
    go_wp2
    go_ret
    rw [HK.out]
    exact ⟨rfl, rfl⟩

set_option maxRecDepth 100000 in
set_option maxHeartbeats 1500000 in
theorem rise_any (p : Option Addr) (n c : Nat) (xs : List Int) (w : World) (h : HasI w (.slice p n c) xs) (hl : xs.length ≤ 17592186044416) :
    Calls Try.prog 37 #[.slice p n c] w fun e w' => e = .returned (.bool (rises10 xs)) ∧ w' = w := by
  obtain ⟨hn, hc, -⟩ := h.len
  have HN : Hid (xs.length = n) := hn
  rw [hn] at hl
  have HX : Hid (HasI w (.slice p n c) xs) := h
  clear hn h
  go_enter Try.func37, Try.ntmps37
  go_wp2
  go_loopw [3, 8] (fun s3 s8 wr => ∃ j : Nat, j ≤ n ∧ s8 = .int .i64 (j : Nat) ∧ s3 = .int .i64 (last10 xs j) ∧ wr = w ∧ Hid (∀ i, i < j → okAt10 xs i = true)) (fun _ s8 _ => n - (intOf s8).toNat)
  case atStart => exact ⟨0, Nat.zero_le _, rfl, rfl, rfl, fun i hi => by omega⟩
  case round =>
    obtain ⟨j, hj, rfl, rfl, rfl, hok⟩ := hrel
    by_cases hlt : j < n
    · obtain ⟨b, o, rfl, hb, hcell⟩ := HX.out.at hlt
      have HO : Hid (okAt10 xs j = (isNode10 (xs.getD j 0) && !decide (xs.getD j 0 ≤ last10 xs j))) := okAt10_last xs j
      have HL : Hid (last10 xs (j + 1) = xs.getD j 0) := by rw [Hid, last10, if_neg (by omega)]; rfl
      generalize xs.getD j 0 = x at *
      generalize last10 xs j = y at *
      have hnode := isNode_any x wr
      generalize isNode10 x = bb at *
      cases bb with
      | false =>
        have HF : Hid (rises10 xs = false) := rises10_no (by rw [HN.out]; exact hlt) (by rw [HO.out]; rfl)
        go_wp2_with fail
        refine same_mono hnode ?_
        go_wp2
        go_ret
        rw [HF.out]
        exact ⟨rfl, rfl⟩
      | true =>
        by_cases hxy : x ≤ y
        · have HF : Hid (rises10 xs = false) := rises10_no (by rw [HN.out]; exact hlt) (by rw [HO.out, decide_eq_true hxy]; rfl)
          go_wp2_with fail
          refine same_mono hnode ?_
          go_wp2
          go_ret
          rw [HF.out]
          exact ⟨rfl, rfl⟩
        · have HT : Hid (okAt10 xs j = true) := by rw [Hid, HO.out, decide_eq_false hxy]; rfl
          go_wp2_with fail
          refine same_mono hnode ?_
          go_wp2
          go_roundw
          case rel =>
            refine ⟨j + 1, by omega, by go_num, by rw [HL.out], by trivial, fun i hi => ?_⟩
            by_cases e : i = j
            · rw [e]; exact HT.out
            · exact hok.out i (by omega)
          case measure => simp only [intOf]; omega
    · have HT : Hid (rises10 xs = true) := rises10_yes fun i hi => hok.out i (by rw [HN.out] at hi; omega)
      go_wp2
      go_ret
      rw [HT.out]
      exact ⟨rfl, rfl⟩

/-- Is it among them? -/
def hasI10 (l : List Int) (x : Int) : Bool := l.any fun a => decide (x = a)
theorem hasI10_no {l : List Int} {x : Int} (h : ∀ i, i < l.length → x ≠ l.getD i 0) : hasI10 l x = false := by
  unfold hasI10
  rw [List.any_eq_false]
  intro a ha
  obtain ⟨i, hi, rfl⟩ := List.getElem_of_mem ha
  have := h i hi
  rw [List.getD_eq_getElem?_getD, List.getElem?_eq_getElem hi] at this
  simpa using this
theorem hasI10_yes {l : List Int} {x : Int} {i : Nat} (hi : i < l.length) (h : x = l.getD i 0) : hasI10 l x = true := by
  unfold hasI10
  rw [List.any_eq_true]
  refine ⟨l.getD i 0, ?_, by simpa using h⟩
  rw [List.getD_eq_getElem?_getD, List.getElem?_eq_getElem hi]
  exact List.getElem_mem hi

set_option maxRecDepth 100000 in
set_option maxHeartbeats 1500000 in
theorem indexI_any (p : Option Addr) (n c : Nat) (xs : List Int) (x : Int) (w : World) (h : HasI w (.slice p n c) xs) (hl : xs.length ≤ 17592186044416) :
    Calls Try.prog 103 #[.slice p n c, .int .i64 x] w fun e w' => (∃ i : Int, e = .returned (.int .i64 i) ∧ decide (0 ≤ i) = hasI10 xs x) ∧ w' = w := by
  obtain ⟨hn, hc, -⟩ := h.len
  have HN : Hid (xs.length = n) := hn
  rw [hn] at hl
  have HX : Hid (HasI w (.slice p n c) xs) := h
  clear hn h
  go_enter Try.func103, Try.ntmps103
  go_wp2
  go_loopw [8] (fun s8 wr => ∃ j : Nat, j ≤ n ∧ s8 = .int .i64 (j : Nat) ∧ wr = w ∧ Hid (∀ i, i < j → x ≠ xs.getD i 0)) (fun s8 _ => n - (intOf s8).toNat)
  case atStart => exact ⟨0, Nat.zero_le _, rfl, rfl, fun i hi => by omega⟩
  case round =>
    obtain ⟨j, hj, rfl, rfl, hok⟩ := hrel
    by_cases hlt : j < n
    · obtain ⟨b, o, rfl, hb, hcell⟩ := HX.out.at hlt
      by_cases hxy : x = xs.getD j 0
      · have HF : Hid (hasI10 xs x = true) := hasI10_yes (by rw [HN.out]; exact hlt) hxy
        have he : (x == xs.getD j 0) = true := by simpa using hxy
        generalize xs.getD j 0 = y at *
        clear hxy
        go_wp2
        go_ret
        exact ⟨⟨_, rfl, by rw [HF.out]; simp⟩, rfl⟩
      · have HF : Hid (x ≠ xs.getD j 0) := hxy
        have he : (x == xs.getD j 0) = false := by simpa using hxy
        clear hxy
        have HS : Hid (∀ i, i < j + 1 → x ≠ xs.getD i 0) := fun i hi => by
          by_cases e : i = j
          · rw [e]; exact HF.out
          · exact hok.out i (by omega)
        clear hok HF
        generalize xs.getD j 0 = y at *
        go_wp2
        go_roundw
        case rel => exact ⟨j + 1, by omega, by go_num, by trivial, HS.out⟩
        case measure => simp only [intOf]; omega
    · have HF : Hid (hasI10 xs x = false) := hasI10_no fun i hi => hok.out i (by rw [HN.out] at hi; omega)
      go_wp2
      go_ret
      exact ⟨⟨_, rfl, by rw [HF.out]; rfl⟩, rfl⟩

set_option maxRecDepth 100000 in
set_option maxHeartbeats 1500000 in
theorem containsI_any (p : Option Addr) (n c : Nat) (xs : List Int) (x : Int) (w : World) (h : HasI w (.slice p n c) xs) (hl : xs.length ≤ 17592186044416) :
    Calls Try.prog 70 #[.slice p n c, .int .i64 x] w fun e w' => e = .returned (.bool (hasI10 xs x)) ∧ w' = w := by
  have hk := indexI_any p n c xs x w h hl
  generalize hasI10 xs x = r at *
  clear h hl
  go_enter Try.func70, Try.ntmps70
  go_wp2_with fail
  refine hk.mono ?_
  rintro e w' ⟨⟨i, rfl, hi⟩, rfl⟩
  have HI : Hid (decide (0 ≤ i) = r) := hi
  clear hk hi
  go_wp2
  go_ret
  rw [← HI.out]
  exact ⟨rfl, rfl⟩

set_option maxRecDepth 100000 in
set_option maxHeartbeats 1500000 in
theorem apart1_any (p : Option Addr) (n c b : Nat) (xs : List Int) (x : Int) (w : World) (h : HasI w (.slice p n c) xs) (hl : xs.length ≤ 17592186044416) (hb : w.cell? ⟨b, 0, none⟩ = some (.slice p n c)) (_hlt : b < w.heap.size) :
    Calls Try.prog 69 #[.int .i64 x, .pointer (some ⟨b, 0, none⟩)] w fun e w' => e = .returned (.bool (hasI10 xs x)) ∧ w' = w := by
  have hk := containsI_any p n c xs x w h hl
  generalize hasI10 xs x = r at *
  clear h hl
  go_enter Try.func69, Try.ntmps69
  go_wp2_with fail
  refine same_mono hk ?_
  go_wp2
  go_ret
  exact ⟨rfl, rfl⟩

set_option maxRecDepth 100000 in
set_option maxHeartbeats 1500000 in
theorem indexF_any (p q : Option Addr) (n c m d b : Nat) (xs ys : List Int) (w : World) (h : HasI w (.slice p n c) xs) (hl : xs.length ≤ 17592186044416) (h2 : HasI w (.slice q m d) ys) (hl2 : ys.length ≤ 17592186044416) (hb : w.cell? ⟨b, 0, none⟩ = some (.slice q m d)) (hblt : b < w.heap.size) :
    Calls Try.prog 102 #[.slice p n c, .func (.func 69) #[] #[.pointer (some ⟨b, 0, none⟩)]] w fun e w' => (∃ i : Int, e = .returned (.int .i64 i) ∧ decide (0 ≤ i) = xs.any fun x => hasI10 ys x) ∧ w' = w := by
  obtain ⟨hn, hc, -⟩ := h.len
  have HN : Hid (xs.length = n) := hn
  rw [hn] at hl
  have HX : Hid (HasI w (.slice p n c) xs) := h
  have HC : Hid (∀ x, Calls Try.prog 69 #[.int .i64 x, .pointer (some ⟨b, 0, none⟩)] w fun e w' => e = .returned (.bool (hasI10 ys x)) ∧ w' = w) := fun x => apart1_any q m d b ys x w h2 hl2 hb hblt
  clear hn h h2 hb hl2
  go_enter Try.func102, Try.ntmps102
  go_wp2
  go_loopw [8] (fun s8 wr => ∃ j : Nat, j ≤ n ∧ s8 = .int .i64 (j : Nat) ∧ wr = w ∧ Hid (∀ i, i < j → hasI10 ys (xs.getD i 0) = false)) (fun s8 _ => n - (intOf s8).toNat)
  case atStart => exact ⟨0, Nat.zero_le _, rfl, rfl, fun i hi => by omega⟩
  case round =>
    obtain ⟨j, hj, rfl, rfl, hok⟩ := hrel
    by_cases hlt : j < n
    · obtain ⟨b1, o1, rfl, hb1, hcell⟩ := HX.out.at hlt
      have hcall := HC.out (xs.getD j 0)
      cases hh : hasI10 ys (xs.getD j 0) with
      | true =>
        have HF : Hid ((xs.any fun x => hasI10 ys x) = true) := by
          rw [Hid, List.any_eq_true]
          refine ⟨xs.getD j 0, ?_, hh⟩
          rw [List.getD_eq_getElem?_getD, List.getElem?_eq_getElem (by rw [HN.out]; exact hlt)]
          exact List.getElem_mem _
        rw [hh] at hcall
        clear hh
        generalize xs.getD j 0 = y at *
        go_wp2_with fail
        refine same_mono hcall ?_
        go_wp2
        go_ret
        exact ⟨⟨_, rfl, by rw [HF.out]; simp⟩, rfl⟩
      | false =>
        have HS : Hid (∀ i, i < j + 1 → hasI10 ys (xs.getD i 0) = false) := fun i hi => by
          by_cases e : i = j
          · rw [e]; exact hh
          · exact hok.out i (by omega)
        rw [hh] at hcall
        clear hh hok
        generalize xs.getD j 0 = y at *
        go_wp2_with fail
        refine same_mono hcall ?_
        go_wp2
        go_roundw
        case rel => exact ⟨j + 1, by omega, by go_num, by trivial, HS.out⟩
        case measure => simp only [intOf]; omega
    · have HF : Hid ((xs.any fun x => hasI10 ys x) = false) := by
        rw [Hid, List.any_eq_false]
        intro a ha
        obtain ⟨i, hi, rfl⟩ := List.getElem_of_mem ha
        have := hok.out i (by rw [HN.out] at hi; omega)
        rw [List.getD_eq_getElem?_getD, List.getElem?_eq_getElem hi] at this
        simpa using this
      go_wp2
      go_ret
      exact ⟨⟨_, rfl, by rw [HF.out]; rfl⟩, rfl⟩

set_option maxRecDepth 100000 in
set_option maxHeartbeats 1500000 in
theorem containsF_any (p q : Option Addr) (n c m d b : Nat) (xs ys : List Int) (w : World) (h : HasI w (.slice p n c) xs) (hl : xs.length ≤ 17592186044416) (h2 : HasI w (.slice q m d) ys) (hl2 : ys.length ≤ 17592186044416) (hb : w.cell? ⟨b, 0, none⟩ = some (.slice q m d)) (hblt : b < w.heap.size) :
    Calls Try.prog 68 #[.slice p n c, .func (.func 69) #[] #[.pointer (some ⟨b, 0, none⟩)]] w fun e w' => e = .returned (.bool (xs.any fun x => hasI10 ys x)) ∧ w' = w := by
  have hk := indexF_any p q n c m d b xs ys w h hl h2 hl2 hb hblt
  generalize (xs.any fun x => hasI10 ys x) = r at *
  clear h hl h2 hl2 hb
  go_enter Try.func68, Try.ntmps68
  go_wp2_with fail
  refine hk.mono ?_
  rintro e w' ⟨⟨i, rfl, hi⟩, rfl⟩
  have HI : Hid (decide (0 ≤ i) = r) := hi
  clear hk hi
  go_wp2
  go_ret
  rw [← HI.out]
  exact ⟨rfl, rfl⟩

set_option maxRecDepth 100000 in
set_option maxHeartbeats 1500000 in
theorem apart_any (p q : Option Addr) (n c m d : Nat) (xs ys : List Int) (w : World) (h : HasI w (.slice p n c) xs) (hl : xs.length ≤ 17592186044416) (h2 : HasI w (.slice q m d) ys) (hl2 : ys.length ≤ 17592186044416) :
    Calls Try.prog 38 #[.slice p n c, .slice q m d] w fun e w' => e = .returned (.bool (!(xs.any fun x => hasI10 ys x))) ∧ Below w.heap.size w w' := by
  have hmf : ∀ (fn : Fn) (first cap : Array Value) (w : World), (Instr.makeFunc fn first cap).run Try.prog w = .ok (.func fn first cap) w := fun _ _ _ _ => rfl
  have hB : ∀ x : Obj, Below w.heap.size w (w.alloc x) := fun x => (Below.refl _ _).alloc (Nat.le_refl _) x
  have hB1 := hB (.cells #[.slice q m d] 24)
  have hbox := heap_alloc_new w (.cells #[.slice q m d] 24)
  have hk := containsF_any p q n c m d w.heap.size xs ys (w.alloc (.cells #[.slice q m d] 24)) (h.below hB1 (Nat.le_refl _)) hl (h2.below hB1 (Nat.le_refl _)) hl2 (box_cell hbox 0) (by simp)
  generalize (xs.any fun x => hasI10 ys x) = r at *
  clear h hl h2 hl2 hbox hB
  go_enter Try.func38, Try.ntmps38
  go_wp2_with fail
  refine same_mono hk ?_
  go_wp2
  go_ret
  exact ⟨rfl, hB1⟩

theorem goodF10_is (c : Conf10) : goodF10 c = (!c.vs.isEmpty && rises10 c.vs && rises10 c.ls && !(c.vs.any fun x => hasI10 c.ls x)) := by
  rw [Bool.eq_iff_iff]
  unfold goodF10 hasI10
  simp only [Bool.and_eq_true, Bool.not_eq_true', List.all_eq_true, List.any_eq_false, List.any_eq_true, decide_eq_false_iff_not, decide_eq_true_eq, not_exists, not_and]
  constructor
  · rintro ⟨⟨⟨h1, h2⟩, h3⟩, h4⟩
    exact ⟨⟨⟨h3, h1⟩, h2⟩, fun a ha b hb => h4 a ha b hb⟩
  · rintro ⟨⟨⟨h3, h1⟩, h2⟩, h4⟩
    exact ⟨⟨⟨h1, h2⟩, h3⟩, fun a ha b hb => h4 a ha b hb⟩
set_option maxRecDepth 100000 in
set_option maxHeartbeats 1500000 in
theorem goodConf_any (x : ConfV) (w : World) (h : FitsF w x) : Calls Try.prog 11 #[.agg x.arr] w fun e w' => e = .returned (.bool (goodF10 x.f)) ∧ Below w.heap.size w w' := by
  have HG : Hid (goodF10 x.f = (!x.f.vs.isEmpty && rises10 x.f.vs && rises10 x.f.ls && !(x.f.vs.any fun a => hasI10 x.f.ls a))) := goodF10_is x.f
  have hB1 : Below w.heap.size w (w.alloc (.cells x.arr 26)) := (Below.refl _ _).alloc (Nat.le_refl _) _
  have h1 := h.below hB1
  have k1 := rise_any _ _ _ _ _ h1.u h1.lu
  have k2 := rise_any _ _ _ _ _ h1.v h1.lv
  have k3 := apart_any _ _ _ _ _ _ _ _ _ h1.u h1.lu h1.v h1.lv
  have hn := h.u.len.1
  have HE : Hid (x.f.vs.isEmpty = decide (x.u.n = 0)) := by
    rw [Hid, ← hn]
    cases x.f.vs <;> simp
  have hzz : (w.alloc (.cells x.arr 26)).heap.size = w.heap.size + 1 := by simp
  obtain ⟨⟨p, n, c⟩, ⟨q, m, d⟩, f⟩ := x
  unfold ConfV.arr at *
  dsimp only at *
  generalize rises10 f.vs = r1 at *
  generalize rises10 f.ls = r2 at *
  generalize (f.vs.any fun a => hasI10 f.ls a) = r3 at *
  clear h h1 hn
  by_cases h0 : n = 0
  · have HF : Hid (goodF10 f = false) := by rw [Hid, HG.out, HE.out, decide_eq_true h0]; rfl
    subst h0
    clear HG HE
    go_enter Try.func11, Try.ntmps11
    go_wp2
    go_ret
    rw [HF.out]
    exact ⟨rfl, hB1⟩
  · have HF : Hid (goodF10 f = (r1 && r2 && !r3)) := by rw [Hid, HG.out, HE.out, decide_eq_false h0]; simp
    have hpos : (0 : Int) < (n : Int) := by omega
    clear HG HE
    cases r1 with
    | false =>
      go_enter Try.func11, Try.ntmps11
      go_wp2_with fail
      refine same_mono k1 ?_
      go_wp2
      go_ret
      rw [HF.out]
      exact ⟨rfl, hB1⟩
    | true =>
      cases r2 with
      | false =>
        go_enter Try.func11, Try.ntmps11
        go_wp2_with fail
        refine same_mono k1 ?_
        go_wp2_with fail
        refine same_mono k2 ?_
        go_wp2
        go_ret
        rw [HF.out]
        exact ⟨rfl, hB1⟩
      | true =>
        go_enter Try.func11, Try.ntmps11
        go_wp2_with fail
        refine same_mono k1 ?_
        go_wp2_with fail
        refine same_mono k2 ?_
        go_wp2_with fail
        refine k3.mono ?_
        rintro e w1 ⟨rfl, hb1⟩
        have hB2 := hB1.trans (hb1.mono hB1.size)
        go_wp2
        go_ret
        rw [HF.out]
        exact ⟨by simp, hB2⟩
end Go.Proofs.Ytnbaoimjcaeeaaa
