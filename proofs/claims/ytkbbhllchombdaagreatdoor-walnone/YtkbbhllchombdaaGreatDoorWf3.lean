import Derived.Test.YtkbbhllchombdaaGreatDoorWf2To
namespace Go.Proofs.YtkbbhllchombdaaGreatDoor
open Go.RowKit Go.Shelf Go.Maps
attribute [local go_sem ↓] ldE_exec stE_exec ldE_execI stE_execI ldE_run ldE_box ldC_exec stC_exec ldC_execI stC_execI ldC_run ldW_exec stW_exec ldW_execI stW_execI ldW_box ldR_exec stR_exec ldR_execI stR_execI ldT_exec stT_exec ldT_execI stT_execI ldT_box stT_box ldU_exec stU_exec ldU_execI stU_execI ldH_exec stH_exec ldH_execI stH_execI ldH_run ldH_box oc_int oc_bool oc_string oc_slice oc_pointer
attribute [local go_sem ↓] bsE_exec bsE_execI bsE_run bsW_exec bsW_execI bsW_run bdE_exec bdE_execI bdE_run bdH_exec bdH_execI bdH_run bdB_exec bdB_execI bdB_run
def bsE2 (x y : Value) : Sem Value := Instr.buildSlice 66 2 #[(0, x), (1, y)]
theorem bsE2_exec (ρ : Operand → Value) (d : Option Tmp) (x y : Operand) (t : TypeId) (p : String) (af : Array Edge) (g : Option (Nat × Bool)) (w : World) : (execOp ρ { dst := d, op := .buildSlice 66 2 #[(0, x), (1, y)], type := t, pos := p, after := af, guard := g }).run Tryz.prog w = ((bsE2 (ρ x) (ρ y)).run Tryz.prog w).andThen fun v w' => .ok (.value v) w' := by
  unfold execOp bsE2
  simp only [Sem.run_bind, Sem.run_pure, List.map_toArray, List.map_cons, List.map_nil]
theorem bsE2_execI (ro : Option Nat) (ρ : Operand → Value) (d : Option Tmp) (x y : Operand) (t : TypeId) (p : String) (af : Array Edge) (g : Option (Nat × Bool)) (w : World) : (Oper.semAt ro ρ { dst := d, op := .buildSlice 66 2 #[(0, x), (1, y)], type := t, pos := p, after := af, guard := g }).run Tryz.prog w = ((bsE2 (ρ x) (ρ y)).run Tryz.prog w).andThen fun v w' => .ok (.value v) w' := by
  rw [Oper.semAt_eq _ _ _ (by intro c h; cases h)]
  exact bsE2_exec ρ d x y t p af g w
set_option maxRecDepth 100000 in
theorem bsE2_run (w : World) (y z : EntV) : (bsE2 (.agg y.arr) (.agg z.arr)).run Tryz.prog w = .ok (.slice (some ⟨w.heap.size, 0, none⟩) 2 2) (w.alloc (.cells (y.arr ++ z.arr) 28)) := by
  obtain ⟨xi, xt, xk, ⟨ck, cs, cq, ckey, cold, cval, cunt, clim⟩, ⟨⟨p1, n1, c1⟩, ⟨q1, m1, d1⟩, f1⟩⟩ := y
  obtain ⟨yi, yt, yk, ⟨dk, ds, dq, dkey, dold, dval, dunt, dlim⟩, ⟨⟨p2, n2, c2⟩, ⟨q2, m2, d2⟩, f2⟩⟩ := z
  unfold bsE2 EntV.arr
  go_simp
theorem in2w : inI 2 := by unfold inI; decide
theorem fits_noop (w : World) {i t : Int} (hi : inI i) (ht : inI t) : FitsE w (noopV i t) := ⟨hi, ht, in1w, fits_zeroC, FitsF.nil w⟩
theorem eArr_size (x : EntV) : x.arr.size = 13 := rfl
theorem hasE_one (w : World) (x : EntV) (hx : FitsE w x) : HasE (w.alloc (.cells x.arr 28)) ⟨some ⟨w.heap.size, 0, none⟩, 1, 1⟩ [x] := by
  have hb : Below w.heap.size w (w.alloc (.cells x.arr 28)) := (Below.refl _ w).alloc (Nat.le_refl _) _
  refine ⟨rfl, Nat.le_refl _, (fun h => by cases h), fun _ => ⟨w.heap.size, 0, rfl, by simp, fun i hi j hj => ?_⟩, fun e he => ?_⟩
  · have hi0 : i = 0 := by have : i < 1 := hi; omega
    subst hi0
    rw [box_cell (heap_alloc_new w _)]
    show x.arr[0 + 0 * 13 + j]? = x.arr[j]?
    rw [Nat.zero_mul, Nat.zero_add]
  · rw [List.mem_singleton.1 he]
    exact hx.below hb
theorem hasE_two (w : World) (x y : EntV) (hx : FitsE w x) (hy : FitsE w y) : HasE (w.alloc (.cells (x.arr ++ y.arr) 28)) ⟨some ⟨w.heap.size, 0, none⟩, 2, 2⟩ [x, y] := by
  have hb : Below w.heap.size w (w.alloc (.cells (x.arr ++ y.arr) 28)) := (Below.refl _ w).alloc (Nat.le_refl _) _
  refine ⟨rfl, Nat.le_refl _, (fun h => by cases h), fun _ => ⟨w.heap.size, 0, rfl, by simp, fun i hi j hj => ?_⟩, fun e he => ?_⟩
  · rw [box_cell (heap_alloc_new w _)]
    have hi2 : i = 0 ∨ i = 1 := by have : i < 2 := hi; omega
    rcases hi2 with rfl | rfl
    · show (x.arr ++ y.arr)[0 + 0 * 13 + j]? = x.arr[j]?
      rw [Nat.zero_mul, Nat.zero_add, Array.getElem?_append_left (by rw [eArr_size]; exact hj)]
    · show (x.arr ++ y.arr)[0 + 1 * 13 + j]? = y.arr[j]?
      rw [Nat.one_mul, Nat.zero_add, Array.getElem?_append_right (by rw [eArr_size]; omega), eArr_size, Nat.add_sub_cancel_left]
  · rcases List.mem_cons.1 he with rfl | he
    · exact hx.below hb
    · rw [List.mem_singleton.1 he]
      exact hy.below hb
theorem Liv.add {w0 w w' : World} {q lb d b : Nat} {M : DM} {W : WM} {l : List (Nat × Obj)} {o : Obj} (h : Liv w0 w q lb d M W l) (hb : Below w.heap.size w w') (hn : w'.heap[b]? = some o) (hlt : w.heap.size ≤ b) : Liv w0 w' q lb d M W ((b, o) :: l) := by
  obtain ⟨U, h1, h2⟩ := h.ex
  refine ⟨U, h1.below hb, fun p hp => ?_⟩
  rcases List.mem_cons.1 hp with rfl | hp
  · exact ⟨h1.fresh hlt, hn⟩
  · exact ⟨(h2 p hp).1, (hb.block _ (heap_lt (h2 p hp).2)).trans (h2 p hp).2⟩
theorem Liv.lt {w0 w : World} {q lb d : Nat} {M : DM} {W : WM} {l : List (Nat × Obj)} (h : Liv w0 w q lb d M W l) : q < w.heap.size := by
  obtain ⟨U, h1, -⟩ := h.ex
  exact h1.box.lt
theorem Liv.ldH {w0 w : World} {q lb d b : Nat} {M : DM} {W : WM} {l : List (Nat × Obj)} (h : Liv w0 w q lb d M W l) (hm : (b, Obj.cells lH.arr 30 (0, 0)) ∈ l) : (ldH (.pointer (some ⟨b, 0, none⟩))).run Tryz.prog w = .ok (.agg lH.arr) w := ldH_box w _ _ _ _ (h.box hm) rfl
attribute [local go_sem ↓] bsE2_exec bsE2_execI bsE2_run
set_option maxRecDepth 100000 in
set_option maxHeartbeats 2000000 in
theorem livesW_any (W : World) (h0 : Gl11 W) : Calls Tryz.prog 9 #[] W fun e w' => e = .returned (.bool true) ∧ Below W.heap.size W w' := by
  have kn := new_good 5000 W (by decide)
  have hmix : Tryz.prog.follows Departure.mixedOrders = true := by kernel_rfl
  have HG : Hid (Gl11 W) := h0
  clear h0
  go_enter Tryz.func9, Tryz.ntmps9
  go_upto_region 2 with (first
    | (go_at_call 22; refine kn.mono ?_; rintro _ w1 ⟨rfl, hd1, hb1⟩; have ko := Liv.opened W HG.out (w2 := w1) ⟨hd1, fun k hk => hk, hb1⟩)
    | (go_at_call 32; refine ko.mono ?_; rintro _ w2 ⟨q, lb, y, rfl, hL2⟩; have hL3 := hL2.alloc (.cells #[.int .i64 0, .int .i64 0, .int .i64 0, .int .i64 0, .int .i64 0, .slice none 0 0] 82); have hth := there_box (hL3.box (List.mem_cons_self ..)) 0 6 (Nat.le_refl _); have hst := stT_arr 0 y hth))
  have hX := hL2.below (setCells_below (Nat.le_refl w2.heap.size) y.arr.toList 0 ((Below.refl _ w2).alloc (Nat.le_refl _) (.cells #[.int .i64 0, .int .i64 0, .int .i64 0, .int .i64 0, .int .i64 0, .slice none 0 0] 82)))
  clear kn hd1 hb1 ko hL2 hL3 hth hst
  generalize (w2.alloc (.cells #[.int .i64 0, .int .i64 0, .int .i64 0, .int .i64 0, .int .i64 0, .slice none 0 0] 82)).setCells w2.heap.size 0 y.arr.toList = X at *
  have hbH := heap_alloc_new X (.cells #[.int .i64 0, .int .i64 0, .int .i64 0] 30)
  have hthH := there_box hbH 0 3 (Nat.le_refl _)
  have hstH := stH_arr 0 lH hthH
  have hbY : ((X.alloc (.cells #[.int .i64 0, .int .i64 0, .int .i64 0] 30)).setCells X.heap.size 0 lH.arr.toList).heap[X.heap.size]? = some (.cells lH.arr 30 (0, 0)) := setCells_box hbH 0 _ _ (Nat.le_refl _) rfl
  have hY := hX.add (setCells_below (Nat.le_refl X.heap.size) lH.arr.toList 0 ((Below.refl _ X).alloc (Nat.le_refl _) (.cells #[.int .i64 0, .int .i64 0, .int .i64 0] 30))) hbY (Nat.le_refl _)
  clear hX hbH hbY
  unfold lH Hard10.arr at hstH
  dsimp only at hstH
  go_upto_region 3 with fail
  replace hY : Liv W ((X.alloc (.cells #[.int .i64 0, .int .i64 0, .int .i64 0] 30)).setCells X.heap.size 0 [.int .i64 1, .int .i64 0, .int .i64 0]) q lb (W.heap.size + 1) lM0 lW0 [(X.heap.size, .cells lH.arr 30 (0, 0))] := hY
  clear hthH hstH
  generalize (X.alloc (.cells #[.int .i64 0, .int .i64 0, .int .i64 0] 30)).setCells X.heap.size 0 [.int .i64 1, .int .i64 0, .int .i64 0] = Y at *
  have hbl : X.heap.size < Y.heap.size := heap_lt (hY.box (List.mem_cons_self ..))
  generalize X.heap.size = hb at *
  generalize W.heap.size + 1 = d at *
  have hD := hY.below (on_drew (Below.refl Y.heap.size Y))
  have s0 := hD.ldH (List.mem_cons_self ..)
  clear hY
  go_region_held3 (fun w' => (ldH (.pointer (some ⟨hb, 0, none⟩))).run Tryz.prog w' = .ok (.agg lH.arr) w')
    (first | (with_reducible exact s0) | (with_reducible assumption))
    (first
      | (go_at_call 35; (refine (noop_any _ 1 1).mono ?_); rintro _ n1 ⟨rfl, hn1⟩; have hL4 := hD.below hn1; have s1 := hL4.ldH (List.mem_cons_self ..))
      | (go_at_call 35; (refine (noop_any _ 2 1).mono ?_); rintro _ n2 ⟨rfl, hn2⟩; have hL5 := hL4.below hn2; have s2 := hL5.ldH (List.mem_cons_self ..); have hL6 := hL5.below ((Below.refl _ n2).alloc (Nat.le_refl _) (.cells ((noopV 1 1).arr ++ (noopV 2 1).arr) 28)); have s3 := hL6.ldH (List.mem_cons_self ..); have k1 := hL6.save1 HG.out ⟨some ⟨n2.heap.size, 0, none⟩, 2, 2⟩ (hasE_two n2 _ _ (fits_noop _ in1w in1w) (fits_noop _ in2w in1w)); dsimp only at k1)
      | (go_at_call 27; (with_reducible refine Calls.mono k1 ?_); rintro _ v1 ⟨rfl, hL7⟩; have s4 := hL7.ldH (List.mem_cons_self ..))
      | (go_at_call 35; (refine (noop_any _ 2 2).mono ?_); rintro _ n3 ⟨rfl, hn3⟩; have hL8 := hL7.below hn3; have s5 := hL8.ldH (List.mem_cons_self ..); have hL9 := hL8.below ((Below.refl _ n3).alloc (Nat.le_refl _) (.cells (noopV 2 2).arr 28)); have s6 := hL9.ldH (List.mem_cons_self ..); have k2 := hL9.save2 HG.out ⟨some ⟨n3.heap.size, 0, none⟩, 1, 1⟩ (hasE_one n3 _ (fits_noop _ in2w in2w)); dsimp only at k2)
      | (go_at_call 27; (with_reducible refine Calls.mono k2 ?_); rintro _ v2 ⟨rfl, hLA⟩; have s7 := hLA.ldH (List.mem_cons_self ..)))
  clear s0 s1 s2 s3 s4 s5 s6 s7 hD hL4 hL5 hL6 hL7 hL8 hL9 k1 k2 hn1 hn2 hn3 hbl
  have kS := hLA.state2
  go_wp2_with fail
  refine kS.mono ?_
  rintro _ a1 ⟨y2, rfl, hy2, hO2, hb1⟩
  have hLB := hLA.below hb1
  have hbT := heap_alloc_new a1 (.cells #[.int .i64 0, .int .i64 0, .int .i64 0, .int .i64 0, .int .i64 0, .slice none 0 0] 82)
  have hthT := there_box hbT 0 6 (Nat.le_refl _)
  have hstT := stT_arr 0 y2 hthT
  have hbT2 := setT_box y2 hbT rfl
  have hbe : Below a1.heap.size a1 ((a1.alloc (.cells #[.int .i64 0, .int .i64 0, .int .i64 0, .int .i64 0, .int .i64 0, .slice none 0 0] 82)).setCells a1.heap.size 0 y2.arr.toList) := setCells_below (Nat.le_refl _) _ _ ((Below.refl _ a1).alloc (Nat.le_refl _) _)
  have hLC := hLB.add hbe hbT2 (Nat.le_refl _)
  have hqz := hLB.lt
  have hWz := hLB.bel.size
  have hE2 := (hO2.below hbe).fits
  have c5 : ((a1.alloc (.cells #[.int .i64 0, .int .i64 0, .int .i64 0, .int .i64 0, .int .i64 0, .slice none 0 0] 82)).setCells a1.heap.size 0 y2.arr.toList).cell? ⟨a1.heap.size, 5, none⟩ = some (.slice y2.w.p y2.w.n y2.w.c) := box_cell hbT2 5
  have hes : y2.es.map EntV.e = [(noopV 1 1).e, (noopV 2 2).e] := (congrArg Sta11.es hy2).trans l_es2
  have hn : y2.w.n = 2 := by
    rw [← hE2.n, ← List.length_map (f := EntV.e), hes]
    rfl
  obtain ⟨eb, eo, hp, hel, hce⟩ := hE2.at' (by omega)
  have hc1 := hce 1 (by omega) 1 (by decide)
  have ht2 : (y2.es.getD 1 noEV).t = 2 := by
    have h1 : (y2.es.map EntV.e).getD 1 noEV.e = (y2.es.getD 1 noEV).e := by
      simp only [List.getD_eq_getElem?_getD, List.getElem?_map]
      cases y2.es[1]? <;> rfl
    rw [hes] at h1
    exact (congrArg Ent10.t h1).symm
  have hc2 : ((a1.alloc (.cells #[.int .i64 0, .int .i64 0, .int .i64 0, .int .i64 0, .int .i64 0, .slice none 0 0] 82)).setCells a1.heap.size 0 y2.arr.toList).cell? ⟨eb, eo + 1 * 13 + 1, none⟩ = some (.int .i64 2) := by
    rw [hc1, ← ht2]
    rfl
  rw [hp, hn] at c5
  have hc22 := hE2.c
  rw [hn] at hc22
  have hcc := hE2.c
  generalize y2.w.c = yc at *
  have kC := hLC.compact HG.out
  have hlz := heap_lt hbT2
  clear hes ht2 hc1 hce hE2 hO2 hy2 hLA hLB hbe kS hbT hp hn hcc
  go_wp2_with fail
  refine kC.mono ?_
  rintro _ b1 ⟨rfl, hLD⟩
  have kS3 := hLD.state3
  have hlz2 := heap_lt (hLD.box (List.mem_cons_self ..))
  clear kC hthT hstT hbT2 hLC hel hc2 c5 hc22 hlz hb1
  generalize a1.heap.size = z at *
  go_wp2_with fail
  refine kS3.mono ?_
  rintro _ b2 ⟨y3, rfl, hy3, hO3, hb2⟩
  have hLE := hLD.below hb2
  have hbz := hLE.box (List.mem_cons_self ..)
  have hthz := there_box hbz 0 6 (Nat.le_refl _)
  have hstz := stT_arr 0 y3 hthz
  have hbz2 := setT_box y3 hbz rfl
  have hLF := hLE.set (List.mem_cons_self ..) (by omega) hWz (Turn.setCells9 y3.arr.toList 0 b2 (Turn.refl _ _)) hbz2
  have c0 : (b2.setCells z 0 y3.arr.toList).cell? ⟨z, 0, none⟩ = some (.int .i64 1) := by
    rw [box_cell hbz2 0, ← l_i3, ← hy3]
    rfl
  have hn3 : y3.w.n = 1 := by
    rw [← hO3.fits.n, ← List.length_map (f := EntV.e), show y3.es.map EntV.e = lW3.s.es from congrArg Sta11.es hy3, l_len.2.2.2]
  have c5 : (b2.setCells z 0 y3.arr.toList).cell? ⟨z, 5, none⟩ = some (.slice y3.w.p 1 y3.w.c) := by
    rw [← hn3]
    exact box_cell hbz2 5
  have kG := hLF.segs3 HG.out
  have hlz := heap_lt hbz2
  have hlz3 := heap_lt hbz
  clear hy3 hO3 hn3 hLE hLD kS3 hb2 hbz hbz2
  go_wp2_with fail
  refine kG.mono ?_
  rintro _ b3 ⟨⟨gp, gc, rfl⟩, hb3⟩
  have hfin := (hLF.below hb3).bel
  clear hLF hb3 kG c0 c5
  go_wp2
  go_ret
  exact ⟨rfl, hfin⟩
theorem lives11_any {w : World} (h : Gl11 w) : ∀ V, Below w.heap.size w V → Calls Tryz.prog 9 #[] V fun e w' => e = .returned (.bool true) ∧ Below V.heap.size V w' := fun V hb => livesW_any V (h.below hb (Nat.le_refl _))
end Go.Proofs.YtkbbhllchombdaaGreatDoor
