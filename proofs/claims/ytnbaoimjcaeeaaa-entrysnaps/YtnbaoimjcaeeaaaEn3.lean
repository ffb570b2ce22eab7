/-
  Contracts: entry.putConf, putEntry, putSnap, Bytes, HardBytes, SnapBytes.
-/
import Derived.Test.YtnbaoimjcaeeaaaEn2
namespace Go.Proofs.Ytnbaoimjcaeeaaa
open Go.RowKit

/-- What is few enough to be written. -/
def FewF (c : Conf10) : Prop := c.vs.length ≤ 1000 ∧ c.ls.length ≤ 1000
def FewC (c : Cmd9) : Prop := c.key.size ≤ 20000 ∧ c.old.size ≤ 20000 ∧ c.val.size ≤ 20000 ∧ c.unt.size ≤ 20000
theorem listB_len (l : List Int) : (listB l).length ≤ 9 + 9 * l.length := by
  unfold listB
  have := numB_le (l.length : Int)
  have := numsB_len l
  rw [List.length_append]
  omega
theorem confB_len {c : Conf10} (h : FewF c) : (confB c).length ≤ 18018 := by
  unfold confB
  have := listB_len c.vs
  have := listB_len c.ls
  obtain ⟨h1, h2⟩ := h
  rw [List.length_append]
  omega
theorem cmdB_few {c : Cmd9} (h : FewC c) : (cmdB c).length ≤ 80072 := by
  have := cmdB_length c
  obtain ⟨h1, h2, h3, h4⟩ := h
  omega
theorem bytB_len (xs : List Int) : (bytB xs).length ≤ 9 + xs.length := by
  unfold bytB
  have := numB_le (xs.length : Int)
  rw [List.length_append]
  omega
theorem entB_len {e : Ent10} (h : FewC e.c) (hf : FewF e.f) : (entB e).length ≤ 100000 := by
  unfold entB
  have h1 := zigB_le e.i
  have h2 := zigB_le e.t
  have h3 := zigB_le e.k
  have h4 := cmdB_few h
  have h5 := bytB_len (cmdB e.c)
  have h6 := confB_len hf
  simp only [List.length_append]
  split <;> split <;> (try simp only [List.length_nil]) <;> omega

set_option maxRecDepth 100000 in
set_option maxHeartbeats 1500000 in
theorem putConf_any (w0 w : World) (v : Value) (xs : List Int) (x : ConfV) (h : Put10 w0 w v xs) (hF : FitsF w0 x) (hf : FewF x.f) (hl : xs.length ≤ 1073600000) :
    Calls Try.prog 73 #[v, .agg x.arr] w (Puts w0 w (xs ++ confB x.f)) := by
  have hb1 : Below w.heap.size w (w.alloc (.cells x.arr 26)) := (Below.refl _ _).alloc (Nat.le_refl _) _
  have hbox : ConfAt (w.alloc (.cells x.arr 26)) w.heap.size x := heap_alloc_new w _
  have hn1 := hF.u.len.1
  have hn2 := hF.v.len.1
  obtain ⟨f1, f2⟩ := hf
  have HC : Hid (confB x.f = listB x.f.vs ++ listB x.f.ls) := rfl
  have k1 := putListI_any w0 (w.alloc (.cells x.arr 26)) v xs x.f.vs _ _ _ (h.more hb1) hF.u (by omega) (by omega)
  have hll := listB_len x.f.vs
  have k2 := fun W u (hP : Put10 w0 W u (xs ++ listB x.f.vs)) => putListI_any w0 W u (xs ++ listB x.f.vs) x.f.ls _ _ _ hP hF.v (by omega) (by rw [List.length_append]; omega)
  have K2 : Hid _ := k2
  generalize confB x.f = bs at *
  generalize listB x.f.vs = l1 at *
  generalize listB x.f.ls = l2 at *
  obtain ⟨⟨p, n, c⟩, ⟨q, m, d⟩, f⟩ := x
  unfold ConfV.arr at *
  dsimp only at *
  clear hF hn1 hn2 h k2
  go_enter Try.func73, Try.ntmps73
  go_wp2_with fail
  generalize w.alloc (.cells #[.slice p n c, .slice q m d] 26) = W1 at *
  refine k1.mono ?_
  rintro e w2 ⟨v2, rfl, hP2, hk2⟩
  have hbox2 : ConfAt w2 w.heap.size ⟨⟨p, n, c⟩, ⟨q, m, d⟩, f⟩ := hk2 _ _ _ _ hbox (by decide)
  obtain ⟨c0, c1⟩ := hbox2.cells
  dsimp only at c0 c1
  have hlt := box_lt hbox2
  have k3 := K2.out w2 v2 hP2
  clear k1 hbox
  go_wp2_with fail
  refine k3.mono ?_
  rintro e w3 ⟨v3, rfl, hP3, hk3⟩
  go_wp2
  go_ret
  exact ⟨_, rfl, by rw [HC.out, ← List.append_assoc]; exact hP3, ((Kin8.below hb1).trans hk2).trans hk3⟩

set_option maxRecDepth 100000 in
set_option maxHeartbeats 2000000 in
theorem putEntry_any (w0 w : World) (v : Value) (xs : List Int) (x : EntV) (h : Put10 w0 w v xs) (hF : FitsF w0 x.f) (hf : FewF x.f.f) (hc : FewC x.c) (hl : xs.length ≤ 1073000000) :
    Calls Try.prog 40 #[v, .agg x.arr] w (Puts w0 w (xs ++ entB x.e)) := by
  have hb1 : Below w.heap.size w (w.alloc (.cells x.arr 28)) := (Below.refl _ _).alloc (Nat.le_refl _) _
  have hbox : EntAt (w.alloc (.cells x.arr 28)) w.heap.size x := heap_alloc_new w _
  have hz1 : (w.alloc (.cells x.arr 28)).heap.size = w.heap.size + 1 := by simp
  have hP1 := h.more hb1
  have HE : Hid (entB x.e = zigB x.i ++ zigB x.t ++ zigB x.k ++ (if x.k = 2 then bytB (cmdB x.c) else []) ++ (if x.k = 3 then confB x.f.f else [])) := rfl
  have HN : Hid (numsB [x.i, x.t, x.k] = zigB x.i ++ zigB x.t ++ zigB x.k) := by simp [Hid, numsB]
  have hl1 : (numsB [x.i, x.t, x.k]).length ≤ 27 := numsB_len _
  have kb := fun W => bytes20_any x.c W hc
  have hcl := cmdB_few hc
  have kt : Hid (∀ W u t, Put10 w0 W u (xs ++ numsB [x.i, x.t, x.k]) → Has W t (cmdB x.c) → Calls Try.prog 71 #[u, t] W (Puts w0 W (xs ++ numsB [x.i, x.t, x.k] ++ bytB (cmdB x.c)))) := fun W u t hP ht => putTextE_any w0 W u t _ _ hP ht (cmdB_isB _) (by rw [List.length_append]; omega) (by omega)
  have kf : Hid (∀ W u, Put10 w0 W u (xs ++ numsB [x.i, x.t, x.k]) → Calls Try.prog 73 #[u, .agg x.f.arr] W (Puts w0 W (xs ++ numsB [x.i, x.t, x.k] ++ confB x.f.f))) := fun W u hP => putConf_any w0 W u _ x.f hP hF hf (by rw [List.length_append]; omega)
  have kn := fun W (hP : Put10 w0 W v xs) R (hR : W.heap[R]? = some (.cells ([x.i, x.t, x.k].map (Value.int .i64)).toArray 3 (0, 0))) => putNumbers_any w0 W v xs [x.i, x.t, x.k] R 3 hP hR rfl (by omega) (by omega)
  have HKN : Hid _ := kn
  clear kn h hl hcl hc hf hF
  generalize numsB [x.i, x.t, x.k] = ns at *
  generalize cmdB x.c = cb at *
  generalize confB x.f.f = fb at *
  generalize hbs : entB x.e = bs at *
  clear hbs
  obtain ⟨i, t, k, ⟨ck, cs, cq, ckey, cold, cval, cunt, clim⟩, ⟨⟨p, n, c⟩, ⟨q, m, d⟩, f⟩⟩ := x
  unfold EntV.arr ConfV.arr Cmd9.arr at *
  dsimp only at *
  have hr := heap_alloc_new (w.alloc (.cells #[.int .i64 i, .int .i64 t, .int .i64 k, .int .i64 ck, .int .i64 cs, .int .i64 cq, .string ckey, .string cold, .string cval, .string cunt, .int .i64 clim, .slice p n c, .slice q m d] 28)) (.cells #[.int .i64 i, .int .i64 t, .int .i64 k] 3)
  have hb2 := (Below.refl _ (w.alloc (.cells #[.int .i64 i, .int .i64 t, .int .i64 k, .int .i64 ck, .int .i64 cs, .int .i64 cq, .string ckey, .string cold, .string cval, .string cunt, .int .i64 clim, .slice p n c, .slice q m d] 28))).alloc (Nat.le_refl _) (.cells #[.int .i64 i, .int .i64 t, .int .i64 k] 3)
  rw [hz1] at hr
  have hP2 := hP1.more hb2
  have k1 := HKN.out _ hP2 (w.heap.size + 1) hr
  have hbox2 := box_below hbox hb2
  have hkk := (Kin8.below hb1).trans (Kin8.below hb2)
  clear hP1 hbox hr HKN hP2 hb2
  go_enter Try.func40, Try.ntmps40
  go_wp2_with fail
  generalize (w.alloc (.cells #[.int .i64 i, .int .i64 t, .int .i64 k, .int .i64 ck, .int .i64 cs, .int .i64 cq, .string ckey, .string cold, .string cval, .string cunt, .int .i64 clim, .slice p n c, .slice q m d] 28)).alloc (.cells #[.int .i64 i, .int .i64 t, .int .i64 k] 3) = W2 at *
  refine k1.mono ?_
  rintro e w3 ⟨v3, rfl, hP3, hk3⟩
  have hbox3 : EntAt w3 w.heap.size ⟨i, t, k, ⟨ck, cs, cq, ckey, cold, cval, cunt, clim⟩, ⟨⟨p, n, c⟩, ⟨q, m, d⟩, f⟩⟩ := hk3 _ _ _ _ hbox2 (by decide)
  obtain ⟨c0, c1, c2, c3, c4, c5, c6, c7, c8, c9, c10, c11, c12⟩ := hbox3.cells
  dsimp only at c0 c1 c2 c3 c4 c5 c6 c7 c8 c9 c10 c11 c12
  have hlt := box_lt hbox3
  have hk4 := hkk.trans hk3
  clear k1 hbox2 hkk hk3 hb1
  by_cases h2 : k = 2
  · have HE2 : Hid (xs ++ bs = xs ++ ns ++ bytB cb) := by rw [Hid, HE.out, ← HN.out, if_pos h2, if_neg (by omega), List.append_nil, List.append_assoc]
    subst h2
    clear HE
    go_wp2_with fail
    refine (kb _).mono ?_
    rintro e w4 ⟨v4, rfl, ho4, hb4⟩
    have k5 := kt.out w4 v3 v4 (hP3.more hb4) ho4.has
    have hk5 := hk4.trans (Kin8.below hb4)
    clear kb c0 c1 c2 c3 c4 c5 c6 c7 c8 c9 c10 c11 c12
    go_wp2_with fail
    refine k5.mono ?_
    rintro e w5 ⟨v5, rfl, hP5, hk6⟩
    go_wp2
    go_ret
    exact ⟨_, rfl, by rw [HE2.out]; exact hP5, hk5.trans hk6⟩
  · have e2 : (k == 2) = false := by simpa using h2
    by_cases h3 : k = 3
    · have HE2 : Hid (xs ++ bs = xs ++ ns ++ fb) := by rw [Hid, HE.out, ← HN.out, if_neg h2, if_pos h3, List.append_nil, List.append_assoc]
      subst h3
      have k5 := kf.out w3 v3 hP3
      clear HE kb
      go_wp2_with fail
      refine k5.mono ?_
      rintro e w5 ⟨v5, rfl, hP5, hk6⟩
      go_wp2
      go_ret
      exact ⟨_, rfl, by rw [HE2.out]; exact hP5, hk4.trans hk6⟩
    · have HE2 : Hid (xs ++ bs = xs ++ ns) := by rw [Hid, HE.out, ← HN.out, if_neg h2, if_neg h3, List.append_nil, List.append_nil]
      have e3 : (k == 3) = false := by simpa using h3
      clear HE kb
      go_wp2
      go_ret
      exact ⟨_, rfl, by rw [HE2.out]; exact hP3, hk4⟩

set_option maxRecDepth 100000 in
set_option maxHeartbeats 1500000 in
theorem bytesE_any (w : World) (x : EntV) (hF : FitsF w x.f) (hf : FewF x.f.f) (hc : FewC x.c) :
    Calls Try.prog 14 #[.agg x.arr] w fun e w' => ∃ v, e = .returned v ∧ Owns w' w.heap.size 5 v (entB x.e) ∧ Below w.heap.size w w' := by
  have hb1 : Below w.heap.size w (w.alloc (.cells x.arr 28)) := (Below.refl _ _).alloc (Nat.le_refl _) _
  have k1 := putEntry_any w (w.alloc (.cells x.arr 28)) (.slice none 0 0) [] x ((Put10.nil w).more hb1) hF hf hc (by simp)
  rw [List.nil_append] at k1
  generalize entB x.e = bs at *
  obtain ⟨i, t, k, ⟨ck, cs, cq, ckey, cold, cval, cunt, clim⟩, ⟨⟨p, n, c⟩, ⟨q, m, d⟩, f⟩⟩ := x
  unfold EntV.arr at *
  dsimp only at *
  go_enter Try.func14, Try.ntmps14
  go_wp2_with fail
  refine k1.mono ?_
  rintro e w3 ⟨v3, rfl, hP3, hk3⟩
  go_wp2
  go_ret
  exact ⟨_, rfl, hP3.own, hP3.bel⟩

set_option maxRecDepth 100000 in
set_option maxHeartbeats 1500000 in
theorem bytesH_any (w : World) (x : Hard10) :
    Calls Try.prog 25 #[.agg x.arr] w fun e w' => ∃ v, e = .returned v ∧ Owns w' w.heap.size 5 v (hardB x) ∧ Below w.heap.size w w' := by
  have hb1 : Below w.heap.size w (w.alloc (.cells x.arr 41)) := (Below.refl _ _).alloc (Nat.le_refl _) _
  have hz1 : (w.alloc (.cells x.arr 41)).heap.size = w.heap.size + 1 := by simp
  have HN : Hid (hardB x = numsB [x.t, x.v, x.c]) := by simp [Hid, numsB, hardB]
  have hr := heap_alloc_new (w.alloc (.cells x.arr 41)) (.cells #[.int .i64 x.t, .int .i64 x.v, .int .i64 x.c] 3)
  have hb2 := (Below.refl _ (w.alloc (.cells x.arr 41))).alloc (Nat.le_refl _) (.cells #[.int .i64 x.t, .int .i64 x.v, .int .i64 x.c] 3)
  rw [hz1] at hr
  have k1 := putNumbers_any w _ (.slice none 0 0) [] [x.t, x.v, x.c] (w.heap.size + 1) 3 (((Put10.nil w).more hb1).more hb2) hr rfl (by omega) (by simp)
  rw [List.nil_append, ← HN.out] at k1
  clear HN hr hb2 hb1 hz1
  generalize hardB x = bs at *
  obtain ⟨t, v, c⟩ := x
  unfold Hard10.arr at *
  dsimp only at *
  go_enter Try.func25, Try.ntmps25
  go_wp2_with fail
  refine k1.mono ?_
  rintro e w3 ⟨v3, rfl, hP3, hk3⟩
  go_wp2
  go_ret
  exact ⟨_, rfl, hP3.own, hP3.bel⟩

set_option maxRecDepth 100000 in
set_option maxHeartbeats 2000000 in
theorem putSnap_any (w0 w : World) (v : Value) (xs : List Int) (x : SnapV) (h : Put10 w0 w v xs) (hF : FitsS w0 x) (hf : FewF x.f.f) (hd : x.d.length ≤ 1000000) (hl : xs.length ≤ 1073000000) :
    Calls Try.prog 44 #[v, .agg x.arr] w (Puts w0 w (xs ++ snapB x.s)) := by
  have hb1 : Below w.heap.size w (w.alloc (.cells x.arr 39)) := (Below.refl _ _).alloc (Nat.le_refl _) _
  have hbox : SnapAt (w.alloc (.cells x.arr 39)) w.heap.size x := heap_alloc_new w _
  have hz1 : (w.alloc (.cells x.arr 39)).heap.size = w.heap.size + 1 := by simp
  have hP1 := h.more hb1
  have HN : Hid (numsB [x.i, x.t] = zigB x.i ++ zigB x.t) := by simp [Hid, numsB]
  have HE : Hid (xs ++ snapB x.s = xs ++ numsB [x.i, x.t] ++ confB x.f.f ++ bytB x.d) := by
    rw [Hid, HN.out]
    unfold snapB SnapV.s
    dsimp only
    simp only [List.append_assoc]
  have hl1 : (numsB [x.i, x.t]).length ≤ 18 := numsB_len _
  have hl2 := confB_len hf
  have kt : Hid (∀ W u t, Put10 w0 W u (xs ++ numsB [x.i, x.t] ++ confB x.f.f) → Has W t x.d → Calls Try.prog 71 #[u, t] W (Puts w0 W (xs ++ numsB [x.i, x.t] ++ confB x.f.f ++ bytB x.d))) := fun W u t hP ht => putTextE_any w0 W u t _ _ hP ht hF.b (by rw [List.length_append, List.length_append]; omega) (by omega)
  have kf : Hid (∀ W u, Put10 w0 W u (xs ++ numsB [x.i, x.t]) → Calls Try.prog 73 #[u, .agg x.f.arr] W (Puts w0 W (xs ++ numsB [x.i, x.t] ++ confB x.f.f))) := fun W u hP => putConf_any w0 W u _ x.f hP hF.f hf (by rw [List.length_append]; omega)
  have kn := fun W (hP : Put10 w0 W v xs) R (hR : W.heap[R]? = some (.cells ([x.i, x.t].map (Value.int .i64)).toArray 3 (0, 0))) => putNumbers_any w0 W v xs [x.i, x.t] R 2 hP hR rfl (by omega) (by omega)
  have HKN : Hid _ := kn
  have HD : Hid (Has w0 (.slice x.w.p x.w.n x.w.c) x.d) := hF.w
  clear kn h hl hd hf hF HN
  generalize numsB [x.i, x.t] = ns at *
  generalize confB x.f.f = fb at *
  generalize hbs : snapB x.s = bs at *
  clear hbs
  obtain ⟨i, t, ⟨⟨p, n, c⟩, ⟨q, m, d⟩, f⟩, ⟨a, b, e⟩, dd⟩ := x
  unfold SnapV.arr ConfV.arr at *
  dsimp only at *
  have hr := heap_alloc_new (w.alloc (.cells #[.int .i64 i, .int .i64 t, .slice p n c, .slice q m d, .slice a b e] 39)) (.cells #[.int .i64 i, .int .i64 t] 3)
  have hb2 := (Below.refl _ (w.alloc (.cells #[.int .i64 i, .int .i64 t, .slice p n c, .slice q m d, .slice a b e] 39))).alloc (Nat.le_refl _) (.cells #[.int .i64 i, .int .i64 t] 3)
  rw [hz1] at hr
  have hP2 := hP1.more hb2
  have k1 := HKN.out _ hP2 (w.heap.size + 1) hr
  have hbox2 := box_below hbox hb2
  have hkk := (Kin8.below hb1).trans (Kin8.below hb2)
  clear hP1 hbox hr HKN hP2 hb2
  go_enter Try.func44, Try.ntmps44
  go_wp2_with fail
  generalize (w.alloc (.cells #[.int .i64 i, .int .i64 t, .slice p n c, .slice q m d, .slice a b e] 39)).alloc (.cells #[.int .i64 i, .int .i64 t] 3) = W2 at *
  refine k1.mono ?_
  rintro e' w3 ⟨v3, rfl, hP3, hk3⟩
  have hbox3 : SnapAt w3 w.heap.size ⟨i, t, ⟨⟨p, n, c⟩, ⟨q, m, d⟩, f⟩, ⟨a, b, e⟩, dd⟩ := hk3 _ _ _ _ hbox2 (by decide)
  obtain ⟨c0, c1, c2, c3, c4⟩ := hbox3.cells
  dsimp only at c0 c1 c2 c3 c4
  have hlt := box_lt hbox3
  have hk4 := hkk.trans hk3
  have k5 := kf.out w3 v3 hP3
  clear k1 hbox2 hkk hk3 hb1
  go_wp2_with fail
  refine k5.mono ?_
  rintro e' w5 ⟨v5, rfl, hP5, hk5⟩
  have hbox5 : SnapAt w5 w.heap.size ⟨i, t, ⟨⟨p, n, c⟩, ⟨q, m, d⟩, f⟩, ⟨a, b, e⟩, dd⟩ := hk5 _ _ _ _ hbox3 (by decide)
  have k6 := kt.out w5 v5 (.slice a b e) hP5 (HD.out.below hP5.bel (Nat.le_refl _))
  clear c0 c1 c2 c3 c4 k5 hbox3 hlt
  obtain ⟨c0, c1, c2, c3, c4⟩ := hbox5.cells
  dsimp only at c0 c1 c2 c3 c4
  have hlt := box_lt hbox5
  go_wp2_with fail
  refine k6.mono ?_
  rintro e' w6 ⟨v6, rfl, hP6, hk6⟩
  go_wp2
  go_ret
  exact ⟨_, rfl, by rw [HE.out]; exact hP6, (hk4.trans hk5).trans hk6⟩

set_option maxRecDepth 100000 in
set_option maxHeartbeats 1500000 in
theorem bytesS_any (w : World) (x : SnapV) (hF : FitsS w x) (hf : FewF x.f.f) (hd : x.d.length ≤ 1000000) :
    Calls Try.prog 23 #[.agg x.arr] w fun e w' => ∃ v, e = .returned v ∧ Owns w' w.heap.size 5 v (snapB x.s) ∧ Below w.heap.size w w' := by
  have hb1 : Below w.heap.size w (w.alloc (.cells x.arr 39)) := (Below.refl _ _).alloc (Nat.le_refl _) _
  have k1 := putSnap_any w (w.alloc (.cells x.arr 39)) (.slice none 0 0) [] x ((Put10.nil w).more hb1) hF hf hd (by simp)
  rw [List.nil_append] at k1
  generalize snapB x.s = bs at *
  obtain ⟨i, t, ⟨⟨p, n, c⟩, ⟨q, m, d⟩, f⟩, ⟨a, b, e⟩, dd⟩ := x
  unfold SnapV.arr at *
  dsimp only at *
  clear hF hf hd
  go_enter Try.func23, Try.ntmps23
  go_wp2_with fail
  refine k1.mono ?_
  rintro e w3 ⟨v3, rfl, hP3, hk3⟩
  go_wp2
  go_ret
  exact ⟨_, rfl, hP3.own, hP3.bel⟩
end Go.Proofs.Ytnbaoimjcaeeaaa
