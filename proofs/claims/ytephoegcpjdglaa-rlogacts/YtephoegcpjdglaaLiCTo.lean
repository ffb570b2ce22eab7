import Derived.Test.YtephoegcpjdglaaLhGTo
import Derived.Test.YtephoegcpjdglaaWc5To
import Derived.Test.YtephoegcpjdglaaRf1
import Derived.Deep.RegionLaw
import Derived.Test.YtephoegcpjdglaaOnceTo
import Derived.Test.YtephoegcpjdglaaLxTo
namespace Go.Proofs.Ytephoegcpjdglaa
open Go.RowKit Go.Shelf
attribute [local go_sem ↓] ldE_exec stE_exec ldE_execI stE_execI ldE_run ldE_box ldC_exec stC_exec ldC_execI stC_execI ldC_run oc_int oc_bool oc_string oc_slice oc_pointer
theorem run_rowsG (w : World) (ty : TypeId) (G : Nat → Prop) (s : Sl10) (es : List EntV) (xs : List EntV) (u : Value) (m : Nat) (h : RowG w G s es) (hx : ∀ x ∈ xs, EntG w G x) (hu : HasR w 13 u m (entsV xs)) (hm1 : 1 ≤ m) (hxl : xs.length = m) (hl : es.length + m ≤ 837723144948) :
    ∃ s' w', (Builtin.append_ #[22, 22] ty #[.slice s.p s.n s.c, u]).run Try.prog w = .ok (.slice (Sl10.p s') (Sl10.n s') (Sl10.c s')) w' ∧ RowG w' (more8 G w w') s' (es ++ xs) ∧ w.grownBy w' s.blk ∧ (s'.blk = s.blk ∨ ∃ k, s'.blk = some k ∧ w.heap.size ≤ k) := by
  obtain ⟨i, z, hi, hz, hsize, hbytes, hzs⟩ := elemE11.info
  have hn := h.n
  have fresh : ∀ v' w', w'.ownsRow w.heap.size 51 13 v' (s.n + m) (entsV es ++ entsV xs) → w.grownBy w' none → ∃ s', v' = .slice (Sl10.p s') (Sl10.n s') (Sl10.c s') ∧ RowG w' (more8 G w w') s' (es ++ xs) ∧ w.grownBy w' s.blk ∧ (s'.blk = s.blk ∨ ∃ k, s'.blk = some k ∧ w.heap.size ≤ k) := by
    intro v' w' ho hg
    obtain ⟨p, n, c, rfl⟩ := row_shape11 ho
    have hR : RowG w' (more8 G w w') ⟨p, n, c⟩ (es ++ xs) := by
      refine RowG.of_owns (B := w.heap.size) ?_ (more_new (Nat.le_refl _)) fun e he => ?_
      · rw [entsV_append, List.length_append, hn, hxl]
        exact ho
      · have hst : Stay G 3 w w' := Stay.of_grown hg fun k hk => by cases hk
        rcases List.mem_append.1 he with he | he
        · exact ((h.all e he).stay hst).mono more_in
        · exact ((hx e he).stay hst).mono more_in
    refine ⟨⟨p, n, c⟩, rfl, hR, grown_any hg _, ?_⟩
    cases hk : Sl10.blk ⟨p, n, c⟩ with
    | none =>
      exfalso
      rcases ho.2 with ⟨hv, h0⟩ | ⟨g, cap, cur, hv, hB, _, hnc, _⟩
      · omega
      · simp only [Value.slice.injEq] at hv
        rw [blk_eq (g := g) (o := 0) hv.1 (by show 0 < c; omega)] at hk
        cases hk
    | some k =>
      refine .inr ⟨k, rfl, ?_⟩
      rcases ho.2 with ⟨hv, h0⟩ | ⟨g, cap, cur, hv, hB, _, hnc, _⟩
      · omega
      · simp only [Value.slice.injEq] at hv
        rw [blk_eq (g := g) (o := 0) hv.1 (by show 0 < c; omega)] at hk
        cases hk
        exact hB
  obtain ⟨q, cu, rfl, hc1, hnone, hlen, hcell⟩ := hu
  obtain ⟨ub, uo, rfl, hub, hucell⟩ := hcell (by omega)
  have hxs13 : (entsV xs).length = m * 13 := by rw [entsV_len, hxl]
  have hnews : ∀ j v, (entsV xs)[j]? = some v → w.cell? ((⟨ub, uo, none⟩ : Addr).add j) = some v := fun j v hj => by
    rw [Addr.add_lit]
    exact hucell j v hj
  have h63 : s.n + m ≤ maxLen := by unfold maxLen; omega
  by_cases hc0 : s.c = 0
  · have hn0 : s.n = 0 := by have := h.c; omega
    have hes : es = [] := List.eq_nil_of_length_eq_zero (by omega)
    cases hp : s.p with
    | none =>
      obtain ⟨v', w', hr, ho, hg, _⟩ := run_row elemE11 w ty w.heap.size (.slice none 0 0) (.slice (some ⟨ub, uo, none⟩) m cu) 0 m [] (entsV xs) ⟨_, _, rfl, hc1, hnone, hlen, fun _ => ⟨ub, uo, rfl, hub, hucell⟩⟩ (entsV_cell xs) (World.ownsRow_nil _ _ _ _) (by omega) (by omega) (Nat.le_refl _)
      obtain ⟨s', rfl, h1, h2, h3⟩ := fresh v' w' (by rw [hn0, hes]; exact ho) hg
      exact ⟨s', w', by rw [hn0, hc0]; exact hr, h1, h2, h3⟩
    | some a =>
      obtain ⟨v', w', hr, ho, hg⟩ := run_append_arg_grows (P := Try.prog) w _ ty _ i z 13 168 elemE11.sl hi hz hsize hbytes hzs (by decide) a 0 0 [] rfl (fun j u hj => by simp at hj) ⟨ub, uo, none⟩ m cu (entsV xs) hxs13 hnews (by omega) (by unfold maxLen; omega) (by omega)
      obtain ⟨s', rfl, h1, h2, h3⟩ := fresh v' w' (by rw [hn0, hes]; exact ho) hg
      exact ⟨s', w', by rw [hn0, hc0]; exact hr, h1, h2, h3⟩
  · obtain ⟨g, o, a, hp, hGg, hg, hfit, hat⟩ := h.at' (by omega)
    by_cases hroom : s.n + m ≤ s.c
    · have hr13 : o + s.n * 13 + m * 13 ≤ a.size := by
        omega
      have hi13 : i.size = 13 := hsize
      have hrun := run_append_room_cells (P := Try.prog) w 22 ty 51 i elemE11.sl hi g o s.n s.c ⟨ub, uo, none⟩ m cu (entsV xs) (by rw [hi13]; exact hxs13) hnews (entsV_cell xs) hroom
        (fun j hj => by rw [hi13, box_cell hg, Array.getElem?_eq_getElem (by rw [hxs13] at hj; omega)]; rfl) (fun j _ => frozen9 hg _)
      rw [hi13] at hrun
      obtain ⟨c', hb', hc'⟩ := setCells_at (entsV xs) (o + s.n * 13) w a hg (by rw [hxs13]; omega)
      have hgr := setCells_grown g (entsV xs) (o + s.n * 13) w
      have hblk : s.blk = some g := blk_eq hp (by omega)
      have hst : Stay G 3 w (w.setCells g (o + s.n * 13) (entsV xs)) := h.lists (by rw [hblk]; exact hgr)
      have hfl : o + s.n * 13 + (entsV xs).length ≤ a.toList.length := by rw [hxs13, Array.length_toList]; exact hr13
      have hcs : c'.size = a.size := by rw [← Array.length_toList, hc', put_len hfl, Array.length_toList]
      refine ⟨⟨s.p, s.n + m, s.c⟩, _, by rw [hp]; exact hrun, ⟨by rw [List.length_append, hn, hxl], hroom, h.nl, fun _ => ⟨g, o, c', hp, .inl hGg, hb', by show o + s.c * 13 ≤ c'.size; omega, fun k hk j hj => ?_⟩, fun e he => ?_⟩, by rw [hblk]; exact hgr, .inl rfl⟩
      · rw [← Array.getElem?_toList, hc']
        have hk' : k < s.n + m := hk
        rcases Nat.lt_or_ge k s.n with hk2 | hk2
        · have hlt : o + k * 13 + j < o + s.n * 13 := by omega
          rw [put_old hfl hlt, Array.getElem?_toList, hat k hk2 j hj]
          rw [List.getD_eq_getElem?_getD, List.getD_eq_getElem?_getD, List.getElem?_append_left (by omega)]
        · have e1 : o + k * 13 + j = o + s.n * 13 + ((k - s.n) * 13 + j) := by omega
          have h3 := entsV_at (l := xs) (i := k - s.n) (k := j) (by omega) hj
          rw [e1, put_new hfl (by rw [hxs13]; omega), h3]
          rw [List.getD_eq_getElem?_getD, List.getD_eq_getElem?_getD, List.getElem?_append_right (by omega), hn]
      · rcases List.mem_append.1 he with he | he
        · exact ((h.all e he).stay hst).mono more_in
        · exact ((hx e he).stay hst).mono more_in
    · obtain ⟨v', w', hr, ho, hg'⟩ := run_append_arg_grows (P := Try.prog) w _ ty _ i z 13 168 elemE11.sl hi hz hsize hbytes hzs (by decide) ⟨g, o, none⟩ s.n s.c (entsV es) (by rw [entsV_len, hn]) (fun j u hj => by
          have hjl : j < (entsV es).length := (List.getElem?_eq_some_iff.1 hj).1
          rw [entsV_len] at hjl
          rw [Addr.add_lit, box_cell hg]
          have e : j = j / 13 * 13 + j % 13 := by omega
          have h2 := hat (j / 13) (by omega) (j % 13) (by omega)
          rw [← entsV_at (by omega) (by omega), ← e] at h2
          rw [show o + j = o + j / 13 * 13 + j % 13 by omega, h2, hj]) ⟨ub, uo, none⟩ m cu (entsV xs) hxs13 hnews (by omega) h63 (by omega)
      obtain ⟨s', rfl, h1, h2, h3⟩ := fresh v' w' ho hg'
      exact ⟨s', w', by rw [hp]; exact hr, h1, h2, h3⟩

theorem step_rowsG {ops : Array Oper} {o : Oper} {a : Act} {K : Act → World → Prop} {Q : Exit → Act → World → Prop} {E : Prop} (W : World) (hgd : o.guard = none) (s y : Operand)
    (ho : o.op = .call { callee := .builtin .append, args := #[s, y], argTypes := #[22, 22] })
    (G : Nat → Prop) (sl : Sl10) (es : List EntV) (xs : List EntV) (u : Value) (m : Nat) (hs : a.eval s = .slice sl.p sl.n sl.c) (hu : a.eval y = u) (h : RowG W G sl es) (hx : ∀ x ∈ xs, EntG W G x) (hz : HasR W 13 u m (entsV xs)) (hm1 : 1 ≤ m) (hxl : xs.length = m) (hl : es.length + m ≤ 837723144948)
    (hK : ∀ s' w', RowG w' (more8 G W w') s' (es ++ xs) → W.grownBy w' sl.blk → (s'.blk = sl.blk ∨ ∃ k, s'.blk = some k ∧ W.heap.size ≤ k) → K (a.put o.dst (.slice (Sl10.p s') (Sl10.n s') (Sl10.c s'))) w') :
    if Region.wanted o (yielded ops a.tmps) = true then Oper.wp Try.prog o a W K Q else E := by
  have hw : Region.wanted o (yielded ops a.tmps) = true := by simp [Region.wanted, hgd]
  rw [if_pos hw]
  obtain ⟨s', w', hr, h1, h2, h3⟩ := run_rowsG W o.type G sl es xs u m h hx hz hm1 hxl hl
  unfold Oper.wp execOp
  simp only [ho, resolve, invoke, builtin, Sem.run_bind, Sem.run_pure, Result.andThen_ok, List.map_toArray, List.map_cons, List.map_nil, hs, hu, hr]
  exact hK s' w' h1 h2 h3


def put13 (G : Nat → Prop) (w W : World) : Nat → Prop := fun k => G k ∨ w.heap.size ≤ k ∧ k < W.heap.size
section
variable {w W w5 : World} {b : Nat} {G : Nat → Prop} {s s5 : Sl10} {es ys : List EntV} {g : Int} {L : LG}
theorem LogG.rowPut (h : LogG w b G s es g L) (hb : Below w.heap.size w W) : RowG W (put13 G w W) s es := (h.row.stay (.of_below hb) (.of_below hb)).mono fun _ hk => .inl hk
theorem ents_put13 (ho : ∀ y ∈ ys, OwnsE W w.heap.size y) : ∀ y ∈ ys, EntG W (put13 G w W) y := fun y hy => EntG.of_owns (ho y hy) fun _ h1 h2 => .inr ⟨h1, h2⟩
structure Appd13 (w : World) (b : Nat) (G : Nat → Prop) (s s5 : Sl10) (L' : LG) (w5 : World) : Prop where
  cell : w5.cell? ⟨b, 3, none⟩ = some (.slice s.p s.n s.c)
  froz : w5.frozen? ⟨b, 3, none⟩ = false
  lt : b < w5.heap.size
  turns : Turns13 w b G L' (w5.setCell ⟨b, 3, none⟩ (.slice s5.p s5.n s5.c))
theorem LogG.appended (h : LogG w b G s es g L) (hb : Below w.heap.size w W) (hR : RowG w5 (more8 (put13 G w W) W w5) s5 (es ++ ys)) (hg : W.grownBy w5 s.blk) (hI : ({ L with l := L.l ++ ys.map EntV.e } : LG).Inv) (ht : ({ L with l := L.l ++ ys.map EntV.e } : LG).end ≤ 1125899906842624) (hs : s5.n ≤ 837723144948) :
    Appd13 w b G s s5 { L with l := L.l ++ ys.map EntV.e } w5 := by
  have hW := h.below hb
  have hne : some b ≠ s.blk := fun hbk => by
    obtain ⟨_, a, ha⟩ := hW.row.blk hbk.symm
    rw [hW.obj] at ha
    simp only [Option.some.injEq, Obj.cells.injEq] at ha
    exact absurd ha.2.1 (by decide)
  have hob := (hg.block b hW.lt hne).trans hW.obj
  have hz := hg.size
  have hz0 := hb.size
  refine ⟨box_cell hob 3, frozen9 hob 3, box_lt hob, ?_, ?_⟩
  · have hg6 := grown_set w5 b 3 (.slice s5.p s5.n s5.c)
    have hz6 := hg6.size
    refine ⟨s5, es ++ ys, g, set_block9 hob 3 _ (by show 3 < 8; decide), ?_, by rw [List.map_append, h.map], hI, ht, hs, h.g0, h.g1⟩
    refine (hR.stay (Stay.of_set hob (by decide) _) (Stay.of_set hob (by decide) _)).mono fun k hk => ?_
    rcases hk with (hk | hk) | hk
    · exact .inl hk
    · exact .inr ⟨hk.1, by omega⟩
    · exact .inr ⟨by omega, by omega⟩
  · refine ((Turn.of_below hb (Nat.le_refl _)).grown hg fun k hk => .inl ?_).setCell (.inl (.inl rfl)) _
    exact .inr (h.row.blk (by rw [hk])).1
end
theorem below_same13 {w X : World} (h : Below w.heap.size w X) (o : Obj) : Below w.heap.size w (X.alloc o) := h.alloc h.size o
theorem below_ad13 {w X : World} (h : Below w.heap.size w X) : Below w.heap.size w X.drew := ⟨h.os, h.tape, h.output, h.size, h.block⟩
theorem entsV_lit13 (Z : World) (e : EntV) : HasR (Z.alloc (.cells e.arr 51)) 13 (.slice (some ⟨Z.heap.size, 0, none⟩) 1 1) 1 (entsV [e]) := by
  rw [entsV_one]
  exact hasR_lit (e := 51) (f := (0, 0)) (by rw [Array.toArray_toList]; exact heap_alloc_new Z _) 1 1 rfl (Nat.le_refl _)
theorem app_is13 (L : LG) (e : Ent10) (h : chain13 L.end L.endT [e] = true) : L.app e = (0, { L with l := L.l ++ [e] }) := if_pos h
theorem hasE13_one (w : World) (x : EntV) (hx : FitsE w x) : HasE (w.alloc (.cells x.arr 51)) ⟨some ⟨w.heap.size, 0, none⟩, 1, 1⟩ [x] := by
  have hb : Below w.heap.size w (w.alloc (.cells x.arr 51)) := (Below.refl _ w).alloc (Nat.le_refl _) _
  refine ⟨rfl, Nat.le_refl _, (fun h => by cases h), fun _ => ⟨w.heap.size, 0, rfl, by simp, fun i hi j hj => ?_⟩, fun e he => ?_⟩
  · have hi0 : i = 0 := by have : i < 1 := hi; omega
    subst hi0
    rw [box_cell (heap_alloc_new w _)]
    show x.arr[0 + 0 * 13 + j]? = x.arr[j]?
    rw [Nat.zero_mul, Nat.zero_add]
  · rw [List.mem_singleton.1 he]
    exact hx.below hb
attribute [local go_sem ↓] bsE_exec bsE_execI bsE_run
set_option maxRecDepth 100000 in
set_option maxHeartbeats 2000000 in
theorem append13_any {w : World} {b : Nat} {G : Nat → Prop} {s : Sl10} {es : List EntV} {g : Int} {L : LG} (h : LogG w b G s es g L) (x : EntV) (hx : FitsE w x) (hl : L.l.length ≤ 1000000000) (ht : L.end + 1 ≤ 1125899906842624) :
    Calls Try.prog 15 #[.pointer (some ⟨b, 0, none⟩), .agg x.arr] w fun e w' => e = .returned (.int .i64 (L.app x.e).1) ∧ Turns13 w b G (L.app x.e).2 w' := by
  have hB1 : Below w.heap.size w (w.alloc (.cells x.arr 51)) := (Below.refl _ w).alloc (Nat.le_refl _) _
  have hbx := heap_alloc_new w (.cells x.arr 51)
  have kn := none13_any (h.below hB1)
  have kl := lastT13_any (h.below hB1)
  have hH : LogG w b G s es g L := h
  have HH : Hid (LogG w b G s es g L) := hH
  have HB1 : Hid _ := hB1
  have HX : Hid (FitsE w x) := hx
  have HBX : Hid _ := hbx
  have hee : inI L.end := by have h1 := h.nums; have := h1.x0; have := h1.end'; have := h1.e1; unfold inI; omega
  have hIa := h.inv.app x.e
  obtain ⟨r, HR⟩ : ∃ r, Hid (chain13 L.end L.endT [x.e] = r) := ⟨_, rfl⟩
  clear h hH hB1 hx hbx
  cases r with
  | false =>
    have HF : Hid (L.app x.e = (2, L)) := if_neg (by rw [HR.out]; exact Bool.noConfusion)
    rw [HF.out]
    clear hIa
    go_enter Try.func15, Try.ntmps15
    go_wp2_with fail
    generalize w.alloc (.cells x.arr 51) = W1 at *
    refine same_mono kn ?_
    go_wp2_with fail
    refine kl.mono ?_
    rintro _ w2 ⟨rfl, hb2⟩
    have hB2 := HB1.out.trans (hb2.mono HB1.out.size)
    have hld := ldE_box _ _ _ _ _ (box_below HBX.out hb2) rfl
    have hlt2 := box_lt (box_below HBX.out hb2)
    have kf := follow13_any (w2.alloc (.cells x.arr 51)) L.end L.endT ⟨some ⟨w2.heap.size, 0, none⟩, 1, 1⟩ [x] (hasE13_one w2 x (HX.out.below hB2)) (show 1 ≤ 1099511627776 by decide) hee.1 hee.2
    rw [show [x].map EntV.e = [x.e] from rfl, HR.out] at kf
    have HB3 : Hid (Below w.heap.size w (w2.alloc (.cells x.arr 51))) := below_same13 hB2 _
    clear kl kn hb2 hB2
    go_wp2_with fail
    refine kf.mono ?_
    rintro _ w3 ⟨rfl, hb3⟩
    go_wp2
    go_ret
    exact ⟨rfl, .of_below HH.out.log (HB3.out.trans (hb3.mono HB3.out.size))⟩
  | true =>
    have HF : Hid (L.app x.e = (0, { L with l := L.l ++ [x.e] })) := app_is13 L x.e HR.out
    rw [HF.out] at hIa ⊢
    have HI : Hid _ := hIa
    have HG1 : Hid (goodE10 x.e = true) := by
      have := HR.out
      rw [chain_one13] at this
      simp only [Bool.and_eq_true] at this
      exact this.1.1
    have HLn : Hid (es.length + 1 ≤ 837723144948 ∧ ({ L with l := L.l ++ [x.e] } : LG).end ≤ 1125899906842624 ∧ (es ++ [x]).length ≤ 837723144948) := by
      have h1 := HH.out.len
      refine ⟨by omega, ?_, by rw [List.length_append, List.length_singleton]; omega⟩
      show L.ix + ((L.l ++ [x.e]).length : Int) ≤ _
      have : L.end = L.ix + L.l.length := rfl
      rw [List.length_append, List.length_singleton]
      omega
    clear hIa
    go_enter Try.func15, Try.ntmps15
    go_wp2_with fail
    generalize w.alloc (.cells x.arr 51) = W1 at *
    refine same_mono kn ?_
    go_wp2_with fail
    refine kl.mono ?_
    rintro _ w2 ⟨rfl, hb2⟩
    have hB2 := HB1.out.trans (hb2.mono HB1.out.size)
    have hbx2 := box_below HBX.out hb2
    have hld := ldE_box _ _ _ _ _ hbx2 rfl
    have hlt2 := box_lt hbx2
    have kf := follow13_any (w2.alloc (.cells x.arr 51)) L.end L.endT ⟨some ⟨w2.heap.size, 0, none⟩, 1, 1⟩ [x] (hasE13_one w2 x (HX.out.below hB2)) (show 1 ≤ 1099511627776 by decide) hee.1 hee.2
    rw [show [x].map EntV.e = [x.e] from rfl, HR.out] at kf
    have HB3 : Hid (Below w.heap.size w (w2.alloc (.cells x.arr 51))) := below_same13 hB2 _
    have HX3 : Hid ((w2.alloc (.cells x.arr 51)).heap[w.heap.size]? = some (.cells x.arr 51 (0, 0))) := box_below hbx2 ((Below.refl _ _).alloc (Nat.le_refl _) _)
    clear kl kn hb2 hB2 hbx2
    go_wp2_with fail
    generalize w2.alloc (.cells x.arr 51) = W3 at *
    refine kf.mono ?_
    rintro _ w3 ⟨rfl, hb3⟩
    have hbx3 := box_below HX3.out hb3
    have HB4 : Hid (Below w.heap.size w w3) := HB3.out.trans (hb3.mono HB3.out.size)
    clear kf hld hlt2 HB3 HX3 hb3
    have hld3 := ldE_box _ _ _ _ _ hbx3 rfl
    have hld3' : (ldE (.pointer (some ⟨w.heap.size, 0, none⟩))).run Try.prog w3.drew = .ok (.agg x.arr) w3.drew := ldE_box w3.drew _ _ _ _ hbx3 rfl
    have hlx3 := box_lt hbx3
    have c3 : w3.cell? ⟨b, 3, none⟩ = some (.slice s.p s.n s.c) := (HH.out.below HB4.out).cells.2.2.2.1
    have hlb3 := (HH.out.below HB4.out).lt
    have KC : Hid (∀ W, Below w.heap.size w W → Calls Try.prog 58 #[.agg x.arr] W fun e w' => ∃ y : EntV, e = .returned (.agg y.arr) ∧ y.e = x.e ∧ OwnsE w' W.heap.size y ∧ Below W.heap.size W w') := fun W hb => copyE13_any W x (HX.out.below hb) (goodE_few HG1.out)
    go_wp2_with fail
    go_region_law (first
      | (go_simp; go_at_call 58; refine Calls.mono (KC.out _ (by first | exact HB4.out | exact below_ad13 HB4.out)) ?_; rintro _ w4 ⟨y, rfl, hy, hO4, hb4⟩; have HY : Hid _ := hy; have HO4 : Hid (OwnsE w4 w.heap.size y) := hO4.mono HB4.out.size; have HB5 : Hid (Below w.heap.size w w4) := (by first | exact HB4.out.trans (hb4.mono HB4.out.size) | exact (below_ad13 HB4.out).trans (hb4.mono HB4.out.size)); have c34 : w4.cell? ⟨b, 3, none⟩ = some (.slice s.p s.n s.c) := (HH.out.below HB5.out).cells.2.2.2.1; have hlb4 := (HH.out.below HB5.out).lt; clear hy hO4 hb4; dsimp only)
      | (refine step_rowsG _ rfl (.tmp 24) (.tmp 27) rfl (put13 G w _) s es [y] _ 1 rfl rfl (HH.out.rowPut (below_same13 HB5.out _)) (ents_put13 (fun z hz => by rw [List.mem_singleton.1 hz]; exact HO4.out.below ((Below.refl _ _).alloc (Nat.le_refl _) _))) (entsV_lit13 _ y) (Nat.le_refl _) rfl HLn.out.1 ?_; intro s5 w5 hR5 hg5 hk5; have hn5 := hR5.n; obtain ⟨q5, fr5, hl5, hT5⟩ := HH.out.appended (below_same13 HB5.out _) hR5 hg5 (by rw [show [y].map EntV.e = [x.e] by rw [List.map_cons, List.map_nil, HY.out]]; exact HI.out) (by rw [show [y].map EntV.e = [x.e] by rw [List.map_cons, List.map_nil, HY.out]]; exact HLn.out.2.1) (by rw [← hn5, List.length_append]; exact HLn.out.1); rw [show [y].map EntV.e = [x.e] by rw [List.map_cons, List.map_nil, HY.out]] at hT5; have HT5 : Hid _ := hT5; clear hR5 hg5 hk5 hn5 hT5))
    all_goals
      go_wp2
      go_ret
      exact ⟨rfl, HT5.out⟩
end Go.Proofs.Ytephoegcpjdglaa

namespace Go.Proofs.Ytephoegcpjdglaa
open Go.RowKit Go.Shelf
attribute [local go_sem ↓] ldE_exec stE_exec ldE_execI stE_execI ldE_run ldE_box ldC_exec stC_exec ldC_execI stC_execI ldC_run oc_int oc_bool oc_string oc_slice oc_pointer
section
variable {w : World} {b : Nat} {G : Nat → Prop} {s : Sl10} {es : List EntV} {g : Int} {L : LG}
def LG.has (L : LG) (e : Ent10) : Bool := decide (L.term e.i = (e.t, 0))
theorem LG.has_is {L : LG} {e : Ent10} : L.has e = ((L.term e.i).2 == 0 && (L.term e.i).1 == e.t) := by
  unfold LG.has
  obtain ⟨t, c⟩ := L.term e.i
  by_cases h1 : t = e.t
  · by_cases h2 : c = 0
    · subst h1 h2; simp
    · rw [decide_eq_false (fun h => h2 (congrArg Prod.snd h))]; simp [h2]
  · rw [decide_eq_false (fun h => h1 (congrArg Prod.fst h))]; simp [h1]
set_option maxRecDepth 100000 in
set_option maxHeartbeats 1000000 in
theorem has13_any (h : LogG w b G s es g L) (x : EntV) :
    Calls Try.prog 56 #[.pointer (some ⟨b, 0, none⟩), .agg x.arr] w fun e w' => e = .returned (.bool (L.has x.e)) ∧ Below w.heap.size w w' := by
  have hB1 : Below w.heap.size w (w.alloc (.cells x.arr 51)) := (Below.refl _ w).alloc (Nat.le_refl _) _
  have hbx := heap_alloc_new w (.cells x.arr 51)
  have e0 : (w.alloc (.cells x.arr 51)).cell? ⟨w.heap.size, 0, none⟩ = some (.int .i64 x.i) := box_cell hbx 0
  have hlt := box_lt hbx
  have kt := term13_any (h.below hB1) x.i
  have HB1 : Hid _ := hB1
  have HBX : Hid _ := hbx
  have HF : Hid (L.has x.e = ((L.term x.i).2 == 0 && (L.term x.i).1 == x.t)) := LG.has_is
  generalize L.has x.e = r at *
  generalize L.term x.i = q at *
  obtain ⟨t, c⟩ := q
  dsimp only at kt HF
  clear h hB1 hbx
  go_enter Try.func56, Try.ntmps56
  go_wp2_with fail
  generalize w.alloc (.cells x.arr 51) = W1 at *
  refine kt.mono ?_
  rintro _ w2 ⟨rfl, hb2⟩
  have hbx2 := box_below HBX.out hb2
  have y1 : w2.cell? ⟨w.heap.size, 1, none⟩ = some (.int .i64 x.t) := box_cell hbx2 1
  have hlt2 := box_lt hbx2
  have HB2 : Hid (Below w.heap.size w w2) := HB1.out.trans (hb2.mono HB1.out.size)
  clear kt e0 hlt hb2 hbx2 HBX HB1
  by_cases h2 : c = 0
  · subst h2
    go_wp2
    go_ret
    exact ⟨by rw [HF.out]; simp, HB2.out⟩
  · have h2' : (c == 0) = false := by simpa using h2
    go_wp2
    go_ret
    exact ⟨by rw [HF.out, h2']; rfl, HB2.out⟩
set_option maxRecDepth 100000 in
set_option maxHeartbeats 1000000 in
theorem mtch13_any (h : LogG w b G s es g L) {q : Nat} {T : TypeId} (hq : w.heap[q]? = some (.cells #[.pointer (some ⟨b, 0, none⟩)] T (0, 0))) (x : EntV) :
    Calls Try.prog 55 #[.agg x.arr, .pointer (some ⟨q, 0, none⟩)] w fun e w' => e = .returned (.bool (!L.has x.e)) ∧ Below w.heap.size w w' := by
  have hB1 : Below w.heap.size w (w.alloc (.cells x.arr 51)) := (Below.refl _ w).alloc (Nat.le_refl _) _
  have hbx := heap_alloc_new w (.cells x.arr 51)
  have hld := ldE_box _ _ _ _ _ hbx rfl
  have hlt := box_lt hbx
  have hq1 := box_below hq hB1
  have q0 : (w.alloc (.cells x.arr 51)).cell? ⟨q, 0, none⟩ = some (.pointer (some ⟨b, 0, none⟩)) := box_cell hq1 0
  have hlq := box_lt hq1
  have kh := has13_any (h.below hB1) x
  have HB1 : Hid _ := hB1
  generalize L.has x.e = r at *
  clear h hB1 hbx hq hq1
  go_enter Try.func55, Try.ntmps55
  go_wp2_with fail
  generalize w.alloc (.cells x.arr 51) = W1 at *
  refine kh.mono ?_
  rintro _ w2 ⟨rfl, hb2⟩
  go_wp2
  go_ret
  exact ⟨rfl, HB1.out.trans (hb2.mono HB1.out.size)⟩
set_option maxRecDepth 100000 in
set_option maxHeartbeats 2000000 in
theorem index13_any (h : LogG w b G s es g L) {q : Nat} {T : TypeId} (hq : w.heap[q]? = some (.cells #[.pointer (some ⟨b, 0, none⟩)] T (0, 0))) (sx : Sl10) (xs : List EntV) (hE : HasE w sx xs) (hl : sx.n ≤ 1099511627776) :
    Calls Try.prog 54 #[.slice sx.p sx.n sx.c, .func (.func 55) #[] #[.pointer (some ⟨q, 0, none⟩)]] w fun e w' => (∃ r : Int, e = .returned (.int .i64 r) ∧ ((r = -1 ∧ L.diff (xs.map EntV.e) = none) ∨ ∃ k : Nat, r = k ∧ k < sx.n ∧ L.diff (xs.map EntV.e) = some ((xs.drop k).map EntV.e))) ∧ Below w.heap.size w w' := by
  have HH : Hid (LogG w b G s es g L) := h
  have HQ : Hid (w.heap[q]? = some (.cells #[.pointer (some ⟨b, 0, none⟩)] T (0, 0))) := hq
  have hnn : Hid (xs.length = sx.n) := hE.n
  have hcc := hE.c
  have HE : Hid (HasE w sx xs) := hE
  obtain ⟨D, HD⟩ : ∃ D, Hid (L.diff (xs.map EntV.e) = D) := ⟨_, rfl⟩
  rw [HD.out]
  clear h hq hE
  go_enter Try.func54, Try.ntmps54
  go_wp2
  go_loopw [5, 8] (fun s5 s8 wr => ∃ j : Nat, s8 = .int .i64 (j : Nat) ∧ j ≤ sx.n ∧ Hid (L.diff ((xs.drop j).map EntV.e) = D) ∧ Below w.heap.size w wr) (fun _ s8 _ => sx.n - (intOf s8).toNat)
  case atStart => exact ⟨0, rfl, Nat.zero_le _, HD, Below.refl _ _⟩
  case round =>
    clear HD
    obtain ⟨j, rfl, hj, HDj, hb⟩ := hrel
    by_cases hjn : j < sx.n
    · have hEr := HE.out.below hb
      obtain ⟨g', o, hp, hg, hld⟩ := hEr.ld hjn
      have hjl : j < xs.length := by rw [hnn.out]; exact hjn
      have HS : Hid (L.diff ((xs.drop j).map EntV.e) = if L.has (xs.getD j noEV).e = true then L.diff ((xs.drop (j + 1)).map EntV.e) else some ((xs.drop j).map EntV.e)) := by
        rw [Hid, List.drop_eq_getElem_cons hjl, List.map_cons, List.getD_eq_getElem?_getD, List.getElem?_eq_getElem hjl, Option.getD_some]
        unfold LG.has
        rw [LG.diff]
        simp only [decide_eq_true_eq]
      have km := mtch13_any (HH.out.below hb) (box_below HQ.out hb) (xs.getD j noEV)
      clear hEr
      generalize xs.getD j noEV = e at *
      generalize L.has e.e = hs at *
      rw [hp] at *
      have hent := enters_of Try.func55 (by kernel_rfl) rfl
      go_wp2_with fail
      refine km.mono ?_
      rintro _ w2 ⟨rfl, hb2⟩
      have HB2 : Hid (Below w.heap.size w w2) := hb.trans (hb2.mono hb.size)
      clear km hb2 hld hent
      cases hs with
      | true =>
        have HN : Hid (L.diff ((xs.drop (j + 1)).map EntV.e) = D) := by
          rw [← HDj.out, HS.out, if_pos rfl]; rfl
        go_wp2
        go_roundw
        case rel => exact ⟨j + 1, by go_num, by omega, HN, HB2.out⟩
        case measure => simp only [intOf]; omega
      | false =>
        have HN : Hid (D = some ((xs.drop j).map EntV.e)) := by
          rw [Hid, ← HDj.out, HS.out, if_neg (fun h => Bool.noConfusion h)]
        go_wp2
        go_ret
        exact ⟨⟨j, rfl, .inr ⟨j, rfl, hjn, HN.out⟩⟩, HB2.out⟩
    · obtain rfl : j = sx.n := by omega
      have HN : Hid (D = none) := by
        rw [Hid, ← HDj.out, ← hnn.out, List.drop_length]
        rfl
      go_wp2
      go_ret
      exact ⟨⟨-1, rfl, .inl ⟨rfl, HN.out⟩⟩, hb⟩
end
noncomputable def putR13 : Code := match Try.f57.body with
  | some (.seq _ (.seq _ (.seq _ (.seq _ (.seq r _))))) => r
  | _ => .skip
section
variable {w W W' : World} {b : Nat} {G : Nat → Prop} {s : Sl10} {es : List EntV} {g : Int} {L L' : LG}
theorem Turns13.after (ht : Turn (fun k => k = b ∨ G k) w W) (h : Turns13 W b G L' W') : Turns13 w b G L' W' := by
  refine ⟨h.log.mono fun k hk => ?_, ht.trans h.turn⟩
  rcases hk with hk | hk
  · exact .inl hk
  · exact .inr ⟨Nat.le_trans ht.size hk.1, hk.2⟩
set_option maxRecDepth 100000 in
set_option maxHeartbeats 4000000 in
theorem putR13_any (h : LogG W b G s es g L) (ht : Turn (fun k => k = b ∨ G k) w W) (sx : Sl10) (xs : List EntV) (hE : HasE W sx xs) (hf : ∀ e ∈ xs, FewF e.f.f) (hm1 : 1 ≤ sx.n) (hl : es.length + sx.n ≤ 837723144948)
    (hI : ({ L with l := L.l ++ xs.map EntV.e } : LG).Inv) (htp : ({ L with l := L.l ++ xs.map EntV.e } : LG).end ≤ 1125899906842624)
    (u5 u6 u7 u8 u9 u10 u11 u12 u13 u14 u15 u16 u17 u18 u19 u20 u21 u22 u23 u24 u25 u26 u27 u28 u29 u30 u31 u32 u33 u34 u35 u36 u37 u38 u39 u40 : Value) {Q : Exit → Act → World → Prop}
    (hQ : ∀ v47 v48 w', Turns13 w b G { L with l := L.l ++ xs.map EntV.e } w' → Q .normal { tmps := #[.pointer (some ⟨b, 0, none⟩), .slice sx.p sx.n sx.c, undef, undef, .bool false, u5, u6, u7, u8, u9, u10, u11, u12, u13, u14, u15, u16, u17, u18, u19, u20, u21, u22, u23, u24, u25, u26, u27, u28, u29, u30, u31, u32, u33, u34, u35, u36, u37, u38, u39, u40, .pointer (some ⟨b, 0, none⟩), .pointer (some ⟨b, 0, none⟩), .pointer (some ⟨b, 0, none⟩), .pointer (some ⟨b, 3, none⟩), .slice s.p s.n s.c, .slice sx.p sx.n sx.c, v47, v48, .pointer (some ⟨b, 0, none⟩), .pointer (some ⟨b, 3, none⟩)], defers := [] } w') :
    Code.wp Try.prog putR13 Q { tmps := #[.pointer (some ⟨b, 0, none⟩), .slice sx.p sx.n sx.c, undef, undef, .bool false, u5, u6, u7, u8, u9, u10, u11, u12, u13, u14, u15, u16, u17, u18, u19, u20, u21, u22, u23, u24, u25, u26, u27, u28, u29, u30, u31, u32, u33, u34, u35, u36, u37, u38, u39, u40, undef, undef, undef, undef, undef, undef, undef, undef, undef, undef], defers := [] } W := by
  have HH : Hid (LogG W b G s es g L) := h
  have HT : Hid (Turn (fun k => k = b ∨ G k) w W) := ht
  have HE : Hid (HasE W sx xs) := hE
  have HF : Hid (∀ e ∈ xs, FewF e.f.f) := hf
  have HI : Hid _ := hI
  have HQ : Hid _ := hQ
  have HS : Hid (es.length + sx.n ≤ 837723144948 ∧ xs.length = sx.n ∧ sx.n ≤ 837723144948 ∧ ({ L with l := L.l ++ xs.map EntV.e } : LG).end ≤ 1125899906842624) := ⟨hl, hE.n, by omega, htp⟩
  have c3 : W.cell? ⟨b, 3, none⟩ = some (.slice s.p s.n s.c) := h.cells.2.2.2.1
  have hlb := h.lt
  have KC : Hid (∀ Z, Below W.heap.size W Z → Calls Try.prog 25 #[.slice sx.p sx.n sx.c] Z fun e w' => ∃ (k : Nat) (ys : List EntV), e = .returned (.slice (some ⟨k, 0, none⟩) sx.n sx.n) ∧ ys.map EntV.e = xs.map EntV.e ∧ OwnsEs w' Z.heap.size ⟨some ⟨k, 0, none⟩, sx.n, sx.n⟩ ys ∧ Below Z.heap.size Z w') := fun Z hb => copyAll13_any Z sx xs (HE.out.below hb) HF.out HS.out.2.2.1
  have HB4 : Hid (Below W.heap.size W W) := Below.refl _ _
  clear h ht hE hf hI hQ htp hl
  unfold putR13
  dsimp only [Try.f57]
  refine wp_region_noPanic ?_
  go_region_law (first
    | (go_simp; go_at_call 25; refine Calls.mono (KC.out _ (by first | exact HB4.out | exact below_ad13 HB4.out)) ?_; rintro _ w4 ⟨k, ys, rfl, hy, hO4, hb4⟩; have HY : Hid _ := hy; have HO4 : Hid (OwnsEs w4 W.heap.size ⟨some ⟨k, 0, none⟩, sx.n, sx.n⟩ ys) := hO4.mono HB4.out.size; have HB5 : Hid (Below W.heap.size W w4) := (by first | exact HB4.out.trans (hb4.mono HB4.out.size) | exact (below_ad13 HB4.out).trans (hb4.mono HB4.out.size)); have c34 : w4.cell? ⟨b, 3, none⟩ = some (.slice s.p s.n s.c) := (HH.out.below HB5.out).cells.2.2.2.1; have hlb4 := (HH.out.below HB5.out).lt; clear hy hO4 hb4; dsimp only)
    | (refine step_rowsG _ rfl (.tmp 45) (.tmp 47) rfl (put13 G W _) s es ys _ sx.n rfl rfl (HH.out.rowPut HB5.out) (ents_put13 HO4.out.all) (by have h1 := hasR_of_owns HO4.out.row; rw [show ys.length = sx.n from HO4.out.fits.n] at h1; exact h1) hm1 HO4.out.fits.n HS.out.1 ?_; intro s5 w5 hR5 hg5 hk5; have hn5 := hR5.n; obtain ⟨q5, fr5, hl5, hT5⟩ := HH.out.appended HB5.out hR5 hg5 (by rw [HY.out]; exact HI.out) (by rw [HY.out]; exact HS.out.2.2.2) (by rw [← hn5, List.length_append, show ys.length = sx.n from HO4.out.fits.n]; exact HS.out.1); rw [HY.out] at hT5; have HT5 : Hid _ := hT5; clear hR5 hg5 hk5 hn5 hT5))
  all_goals
    exact NoPanic.normal (HQ.out _ _ _ (HT5.out.after HT.out))
def LG.low (L : LG) (p : Nat) : LG := { L with l := L.l.take p, safe := min L.safe (L.ix + p) }
theorem LG.Inv.low {L : LG} (h : L.Inv) {p : Nat} (hp : p ≤ L.l.length) (hd : L.done ≤ L.ix + p) : (L.low p).Inv := by
  have h1 := h.used
  have h2 := h.done
  have h3 := h.sx
  have hl : (L.l.take p).length = p := by rw [List.length_take]; omega
  have he : (L.low p).end = L.ix + p := by
    show L.ix + ((L.l.take p).length : Int) = _
    rw [hl]
  refine ⟨h.x0, h.t0, chain_prefix13 h.row p, h.used, h.done, ?_, ?_, ?_⟩
  · rw [he]; exact hd
  · exact Int.le_min.2 ⟨h3, show L.ix ≤ L.ix + (p : Int) by omega⟩
  · rw [he]; exact Int.min_le_right _ _
theorem cut_low13 {L : LG} {x : Ent10} {m : List Ent10} {p : Nat} (hx : x.i = L.ix + p + 1) : L.cut x m = { L.low p with l := (L.low p).l ++ m } := by
  unfold LG.cut LG.low
  have e : (x.i - L.ix - 1).toNat = p := by omega
  rw [e]
  have e2 : (if x.i ≤ L.safe then x.i - 1 else L.safe) = min L.safe (L.ix + (p : Int)) := by
    split <;> omega
  rw [e2]
set_option maxRecDepth 100000 in
set_option maxHeartbeats 4000000 in
theorem put13_any (h : LogG w b G s es g L) (sx : Sl10) (x : EntV) (xs : List EntV) (hE : ∀ W, Turn (fun k => k = b ∨ G k) w W → HasE W sx (x :: xs)) (hf : ∀ e ∈ x :: xs, FewF e.f.f) (p : Nat) (hp : p ≤ L.l.length) (hx : x.i = L.ix + p + 1) (hl : es.length + sx.n ≤ 837723144948)
    (hI : L.done < x.i → (L.cut x.e ((x :: xs).map EntV.e)).Inv) (htp : (L.cut x.e ((x :: xs).map EntV.e)).end ≤ 1125899906842624) :
    Calls Try.prog 57 #[.pointer (some ⟨b, 0, none⟩), .slice sx.p sx.n sx.c] w fun e w' => e = .returned (.bool (decide (L.done < x.i))) ∧ Turns13 w b G (if L.done < x.i then L.cut x.e ((x :: xs).map EntV.e) else L) w' := by
  have hE0 := hE w (Turn.refl _ _)
  have hsn : Hid (xs.length + 1 = sx.n) := hE0.n
  obtain ⟨g', o, hsp, hg', hc0⟩ := hE0.at' (by have := hsn.out; omega)
  have c0 : w.cell? ⟨g', o, none⟩ = some (.int .i64 x.i) := by
    have := hc0 0 (by have := hsn.out; omega) 0 (by decide)
    rw [Nat.zero_mul, Nat.add_zero] at this
    exact this
  have c4 : w.cell? ⟨b, 4, none⟩ = some (.int .i64 L.done) := box_cell h.obj 4
  have hlt := h.lt
  have HN : Hid (Nums13 L s.n) := h.nums
  have hn1 : 1 ≤ sx.n := by have := hsn.out; omega
  have hcc : sx.n ≤ sx.c := hE0.c
  have w1 : IntKind.i64.wrap (x.i - 1) = x.i - 1 := by rw [IntKind.wrap_i64]; have := h.n; have := HN.out.x0; have := HN.out.x1; have := HN.out.n1; omega
  have hsp' : sx.p = some ⟨g', o, none⟩ := hsp
  by_cases h1 : L.done < x.i
  · have h1' : ¬ x.i - 1 < L.done := by omega
    have hI' := hI h1
    rw [if_pos h1, decide_eq_true h1]
    have hpe : L.end = L.ix + L.l.length := rfl
    have hcl : L.cut x.e ((x :: xs).map EntV.e) = { L.low p with l := (L.low p).l ++ (x :: xs).map EntV.e } := cut_low13 hx
    rw [hcl] at hI' htp ⊢
    by_cases h2 : x.i - 1 < L.end
    · have kl := last13_any h
      have HH : Hid (LogG w b G s es g L) := h
      have HE : Hid (∀ W, Turn (fun k => k = b ∨ G k) w W → HasE W sx (x :: xs)) := hE
      have HF : Hid (∀ e ∈ x :: xs, FewF e.f.f) := hf
      have HI : Hid _ := hI'
      have HXi : Hid (x.i - 1 = L.ix + p) := by rw [Hid]; omega
      have HIl : Hid (L.low p).Inv := h.inv.low hp (by omega)
      have HPp : Hid (p ≤ L.l.length) := hp
      have hix := HN.out.x0
      have hix1 := HN.out.x1
      have w2' : IntKind.i64.wrap (L.ix + 1) = L.ix + 1 := by rw [IntKind.wrap_i64]; omega
      have hgt : L.ix < x.i := by omega
      have hxb : x.i ≤ 2251799813685248 := by have := HN.out.e1; omega
      obtain ⟨px, nx, cx⟩ := sx
      dsimp only at *
      subst hsp'
      clear h hE hf hE0 hc0 hI hI' hcl hx hpe hp
      go_enter Try.func57, Try.ntmps57
      go_wp2_with fail
      refine kl.mono ?_
      rintro _ w2 ⟨rfl, hb2⟩
      have hL2 := HH.out.below hb2
      have c1 : w2.cell? ⟨b, 1, none⟩ = some (.int .i64 L.ix) := hL2.cells.2.1
      have hlt2 := hL2.lt
      have kc := cut13q hL2 (L.ix + 1) (x.i - 1) (by omega) (by omega) (by omega) (by omega)
      have hcut := fun W (hb : Below w2.heap.size w2 W) => (hL2.below hb).cut (L.ix + 1) (x.i - 1) (by omega) (by omega)
      have HC : Hid _ := hcut
      have HB2 : Hid (Below w.heap.size w w2) := hb2
      generalize cutS13 s L.ix (L.ix + 1) (x.i - 1) = cs at *
      clear kl hcut hb2 c4 c0
      go_wp2_with fail
      refine kc.mono ?_
      rintro _ w3 ⟨rfl, hq⟩
      have hb3 := below_q13 hq
      have hL3 := hL2.below hb3
      have hc3 := HC.out w3 hb3
      have hB3 := HB2.out.trans (hb3.mono HB2.out.size)
      have c3 := box_cell hL3.obj 3
      have c6 : w3.cell? ⟨b, 6, none⟩ = some (.int .i64 L.safe) := box_cell hL3.obj 6
      dsimp only [logArr] at c3
      have ff := frozen9 hL3.obj
      have hlt3 := hL3.lt
      have ho1 := set_block9 hL3.obj 3 (.slice cs.p cs.n cs.c) (by show 3 < 8; decide)
      have hg1 := grown_set w3 b 3 (.slice cs.p cs.n cs.c)
      have ho2 := set_block9 ho1 6 (.int .i64 (min L.safe (x.i - 1))) (by show 6 < 8; decide)
      have hg2 := grown_set (w3.setCell ⟨b, 3, none⟩ (.slice cs.p cs.n cs.c)) b 6 (.int .i64 (min L.safe (x.i - 1)))
      have hgg := grown_trans hg1 hg2
      have hT3 : Turn (fun k => k = b ∨ G k) w ((w3.setCell ⟨b, 3, none⟩ (.slice cs.p cs.n cs.c)).setCell ⟨b, 6, none⟩ (.int .i64 (min L.safe (x.i - 1)))) := (Turn.of_below hB3 (Nat.le_refl _)).grown hgg fun _ hk => .inl (.inl (Option.some.inj hk).symm)
      have hst : ∀ t, t ≠ 62 → Stay G t w3 ((w3.setCell ⟨b, 3, none⟩ (.slice cs.p cs.n cs.c)).setCell ⟨b, 6, none⟩ (.int .i64 (min L.safe (x.i - 1)))) := fun t hne => Stay.of_grown hgg fun k hk a fr he => by
        cases hk
        rw [hL3.obj] at he
        simp only [Option.some.injEq, Obj.cells.injEq] at he
        exact hne he.2.1.symm
      have hrow : RowG w3 G cs (es.take p) := by
        have := hc3.row
        rwa [show (L.ix + 1 - L.ix - 1).toNat = 0 by omega, List.drop_zero, show (x.i - 1 - (L.ix + 1) + 1).toNat = p by have := HXi.out; omega] at this
      have hlen : es.length = L.l.length := HH.out.len
      have hLl : LogG ((w3.setCell ⟨b, 3, none⟩ (.slice cs.p cs.n cs.c)).setCell ⟨b, 6, none⟩ (.int .i64 (min L.safe (x.i - 1)))) b G cs (es.take p) g (L.low p) := by
        refine ⟨?_, hrow.stay (hst _ (by decide)) (hst _ (by decide)), by rw [List.map_take, HH.out.map]; rfl, HIl.out, ?_, ?_, HH.out.g0, HH.out.g1⟩
        · rw [ho2]
          unfold logArr LG.low
          rw [HXi.out]
          rfl
        · show L.ix + ((L.l.take p).length : Int) ≤ _
          have := HN.out.e1
          have := HXi.out
          have := HPp.out
          rw [List.length_take]; omega
        · have h5 := hrow.n
          rw [List.length_take] at h5
          have := HN.out.n1
          have := HH.out.n
          omega
      have HLl : Hid _ := hLl
      have HT3 : Hid _ := hT3
      have hlp : (es.take p).length + nx ≤ 837723144948 := by rw [List.length_take]; omega
      clear kc hL2 hL3 hc3 hB3 ho1 hg1 ho2 hg2 hgg hT3 hst hrow hlen hLl hb3 hq HC
      go_wp2_with fail
      refine putR13_any HLl.out HT3.out ⟨some ⟨g', o, none⟩, nx, cx⟩ (x :: xs) (HE.out _ HT3.out) HF.out hn1 hlp HI.out htp _ _ _ _ _ _ _ _ _ _ _ _ _ _ _ _ _ _ _ _ _ _ _ _ _ _ _ _ _ _ _ _ _ _ _ _ ?_
      intro v47 v48 w' hT
      go_wp2
      go_ret
      exact ⟨rfl, hT⟩
    · have hpl : p = L.l.length := by omega
      have hlow : L.low p = L := by
        have := h.inv.safe
        unfold LG.low
        rw [hpl, List.take_length, ← hpe, show min L.safe L.end = L.safe by omega]
      rw [hlow] at hI' htp ⊢
      have kl := last13_any h
      have HH : Hid (LogG w b G s es g L) := h
      have HE : Hid (∀ W, Turn (fun k => k = b ∨ G k) w W → HasE W sx (x :: xs)) := hE
      have HF : Hid (∀ e ∈ x :: xs, FewF e.f.f) := hf
      have HI : Hid _ := hI'
      have h2' : ¬ x.i - 1 < L.end := h2
      obtain ⟨px, nx, cx⟩ := sx
      dsimp only at *
      subst hsp'
      clear h hE hf hE0 hc0 hI hI' hcl hlow hx hpl hpe h2
      go_enter Try.func57, Try.ntmps57
      go_wp2_with fail
      refine kl.mono ?_
      rintro _ w2 ⟨rfl, hb2⟩
      have hT2 : Turn (fun k => k = b ∨ G k) w w2 := Turn.of_below hb2 (Nat.le_refl _)
      go_wp2_with fail
      refine putR13_any (HH.out.below hb2) hT2 ⟨some ⟨g', o, none⟩, nx, cx⟩ (x :: xs) (HE.out _ hT2) HF.out hn1 hl HI.out htp _ _ _ _ _ _ _ _ _ _ _ _ _ _ _ _ _ _ _ _ _ _ _ _ _ _ _ _ _ _ _ _ _ _ _ _ ?_
      intro v47 v48 w' hT
      go_wp2
      go_ret
      exact ⟨rfl, hT⟩
  · have h1' : x.i - 1 < L.done := by omega
    have HH : Hid (LogG w b G s es g L) := h
    rw [if_neg h1, decide_eq_false h1]
    obtain ⟨px, nx, cx⟩ := sx
    dsimp only at *
    subst hsp'
    clear h hE hf hE0 hc0 hI htp hx
    go_enter Try.func57, Try.ntmps57
    go_wp2
    go_ret
    exact ⟨rfl, .of_below HH.out.log (Below.refl _ _)⟩
end
theorem HasE.drop {w : World} {s : Sl10} {es : List EntV} (h : HasE w s es) {k g o : Nat} (hk : k < s.n) (hp : s.p = some ⟨g, o, none⟩) : HasE w ⟨some ⟨g, o + k * 13, none⟩, s.n - k, s.c - k⟩ (es.drop k) := by
  have hn := h.n
  have hc := h.c
  obtain ⟨b, o', hp', hlt, hcell⟩ := h.at' (by omega)
  rw [hp] at hp'
  cases hp'
  refine ⟨by rw [List.length_drop, hn], by show s.n - k ≤ s.c - k; omega, (fun h => by cases h), fun _ => ⟨g, o + k * 13, rfl, hlt, fun i hi j hj => ?_⟩, fun e he => h.all e (List.mem_of_mem_drop he)⟩
  have hi' : i < s.n - k := hi
  have e1 : (es.drop k).getD i noEV = es.getD (k + i) noEV := by rw [List.getD_eq_getElem?_getD, List.getD_eq_getElem?_getD, List.getElem?_drop]
  rw [e1, ← hcell (k + i) (by omega) j hj]
  congr 2
  omega
section
variable {w : World} {b : Nat} {G : Nat → Prop} {s : Sl10} {es : List EntV} {g : Int} {L : LG}
set_option maxRecDepth 100000 in
set_option maxHeartbeats 4000000 in
theorem match13_any (h : LogG w b G s es g L) (i t : Int) (sx : Sl10) (xs : List EntV) (hE : ∀ W, Turn (fun k => k = b ∨ G k) w W → HasE W sx xs) (hi : inI i) (hl : es.length + sx.n ≤ 837723144948) (htp : L.end + sx.n ≤ 1125899906842624) :
    Calls Try.prog 14 #[.pointer (some ⟨b, 0, none⟩), .int .i64 i, .int .i64 t, .slice sx.p sx.n sx.c] w fun e w' => e = .returned (.tuple #[.int .i64 (L.match_ i t (xs.map EntV.e)).1.1, .bool (L.match_ i t (xs.map EntV.e)).1.2]) ∧ Turns13 w b G (L.match_ i t (xs.map EntV.e)).2 w' := by
  have hB1 : Below w.heap.size w (w.alloc (.cells #[.pointer (some ⟨b, 0, none⟩)] 30)) := (Below.refl _ w).alloc (Nat.le_refl _) _
  have hbx := heap_alloc_new w (.cells #[.pointer (some ⟨b, 0, none⟩)] 30)
  have q0 := box_cell hbx 0
  replace q0 : (w.alloc (.cells #[.pointer (some ⟨b, 0, none⟩)] 30)).cell? ⟨w.heap.size, 0, none⟩ = some (.pointer (some ⟨b, 0, none⟩)) := q0
  have hlq := box_lt hbx
  have kt := term13_any (h.below hB1) i
  have HH : Hid (LogG w b G s es g L) := h
  have HB1 : Hid _ := hB1
  have HBX : Hid _ := hbx
  have HI : Hid (inI i) := hi
  have HE : Hid (∀ W, Turn (fun k => k = b ∨ G k) w W → HasE W sx xs) := hE
  have HS : Hid (es.length + sx.n ≤ 837723144948 ∧ L.end + sx.n ≤ 1125899906842624 ∧ sx.n ≤ sx.c ∧ xs.length = sx.n) := ⟨hl, htp, (hE w (Turn.refl _ _)).c, (hE w (Turn.refl _ _)).n⟩
  obtain ⟨R, HR⟩ : ∃ R, Hid (L.match_ i t (xs.map EntV.e) = R) := ⟨_, rfl⟩
  rw [HR.out]
  obtain ⟨q, HQ⟩ : ∃ q, Hid (L.term i = q) := ⟨_, rfl⟩
  rw [HQ.out] at kt
  obtain ⟨tt, c⟩ := q
  dsimp only at kt
  clear h hB1 hbx hE hi hl htp
  by_cases hc : c = 0 ∧ tt = t
  · obtain ⟨rfl, rfl⟩ := hc
    obtain ⟨hi0, hi1, -⟩ := LG.term_ok HQ.out
    have hix := HH.out.nums
    have hx0 := hix.x0
    have hxe := hix.e1
    have wr : IntKind.i64.wrap (i + (sx.n : Int)) = i + (sx.n : Int) := by rw [IntKind.wrap_i64]; have := HS.out.2.1; omega
    obtain ⟨ch, HCh⟩ : ∃ ch, Hid (chain13 i tt (xs.map EntV.e) = ch) := ⟨_, rfl⟩
    have HK2 : Hid (∀ W, Below w.heap.size w W → Calls Try.prog 24 #[.int .i64 i, .int .i64 tt, .slice sx.p sx.n sx.c] W fun e w' => e = .returned (.bool ch) ∧ Below W.heap.size W w') := fun W hb => by
      have := follow13_any W i tt sx xs (HE.out _ (Turn.of_below hb (Nat.le_refl _))) (by have := HS.out; omega) HI.out.1 HI.out.2
      rw [HCh.out] at this
      exact this
    have HK3 : Hid (∀ (W : World) (q : Nat), Below w.heap.size w W → W.heap[q]? = some (Obj.cells #[Value.pointer (some ⟨b, 0, none⟩)] 30 (0, 0)) → Calls Try.prog 54 #[.slice sx.p sx.n sx.c, .func (.func 55) #[] #[.pointer (some ⟨q, 0, none⟩)]] W fun e w' => (∃ r : Int, e = .returned (.int .i64 r) ∧ ((r = -1 ∧ L.diff (xs.map EntV.e) = none) ∨ ∃ k : Nat, r = k ∧ k < sx.n ∧ L.diff (xs.map EntV.e) = some ((xs.drop k).map EntV.e))) ∧ Below W.heap.size W w') := fun W q hb hq => index13_any (HH.out.below hb) (q := q) hq sx xs (HE.out _ (Turn.of_below hb (Nat.le_refl _))) (by have := HS.out; omega)
    cases ch with
    | false =>
      have HF : Hid (R = ((0, false), L)) := by
        rw [Hid, ← HR.out]
        unfold LG.match_
        rw [if_neg]
        rintro ⟨-, h2⟩
        rw [HCh.out] at h2
        cases h2
      rw [HF.out]
      go_enter Try.func14, Try.ntmps14
      go_wp2_with fail
      generalize w.alloc (.cells #[.pointer (some ⟨b, 0, none⟩)] 30) = W1 at *
      refine kt.mono ?_
      rintro _ w2 ⟨rfl, hb2⟩
      have HB2 : Hid (Below w.heap.size w w2) := HB1.out.trans (hb2.mono HB1.out.size)
      have kf := HK2.out w2 HB2.out
      clear kt hb2 q0 hlq
      go_wp2_with fail
      refine kf.mono ?_
      rintro _ w3 ⟨rfl, hb3⟩
      have HT : Hid (Turns13 w b G L w3) := .of_below HH.out.log (HB2.out.trans (hb3.mono HB2.out.size))
      clear kf hb3
      go_wp2
      go_ret2
      exact ⟨rfl, HT.out⟩
    | true =>
      go_enter Try.func14, Try.ntmps14
      go_wp2_with fail
      generalize w.alloc (.cells #[.pointer (some ⟨b, 0, none⟩)] 30) = W1 at *
      refine kt.mono ?_
      rintro _ w2 ⟨rfl, hb2⟩
      have HB2 : Hid (Below w.heap.size w w2) := HB1.out.trans (hb2.mono HB1.out.size)
      have HX2 : Hid (w2.heap[w.heap.size]? = some (.cells #[.pointer (some ⟨b, 0, none⟩)] 30 (0, 0))) := box_below HBX.out hb2
      have kf := HK2.out w2 HB2.out
      clear kt hb2 q0 hlq HBX
      go_wp2_with fail
      refine kf.mono ?_
      rintro _ w3 ⟨rfl, hb3⟩
      have HB3 : Hid (Below w.heap.size w w3) := HB2.out.trans (hb3.mono HB2.out.size)
      have HX3 : Hid (w3.heap[w.heap.size]? = some (.cells #[.pointer (some ⟨b, 0, none⟩)] 30 (0, 0))) := box_below HX2.out hb3
      have ki := HK3.out w3 w.heap.size HB3.out HX3.out
      clear kf hb3 HX2 HB2
      go_wp2_with fail
      refine ki.mono ?_
      rintro _ w4 ⟨⟨r, rfl, hr⟩, hb4⟩
      have HB4 : Hid (Below w.heap.size w w4) := HB3.out.trans (hb4.mono HB3.out.size)
      have HX4 : Hid (w4.heap[w.heap.size]? = some (.cells #[.pointer (some ⟨b, 0, none⟩)] 30 (0, 0))) := box_below HX3.out hb4
      clear ki hb4 HX3 HB3
      rcases hr with ⟨rfl, hr⟩ | ⟨k, rfl, hkn, hr⟩
      · have HF : Hid (R = ((i + (sx.n : Int), true), L)) := by
          rw [Hid, ← HR.out]
          unfold LG.match_
          rw [if_pos ⟨HQ.out, HCh.out⟩, hr, List.length_map, HS.out.2.2.2]
        have HT : Hid (Turns13 w b G L (w4.drewN 1)) := .of_below HH.out.log (HB4.out.trans ((below_drewN (Below.refl _ _) 1).mono HB4.out.size))
        have HT2 : Hid (∀ m, Turns13 w b G L (w4.drewN m)) := fun m => .of_below HH.out.log (HB4.out.trans ((below_drewN (Below.refl _ _) m).mono HB4.out.size))
        clear hr
        go_wp2
        go_quiet (fail)
        go_wp2
        go_ret2
        exact ⟨by rw [HF.out]; rfl, by rw [HF.out]; exact HT2.out _⟩
      · have hkl : k < xs.length := by rw [HS.out.2.2.2]; exact hkn
        have HDk : Hid (xs.drop k = xs[k] :: xs.drop (k + 1)) := List.drop_eq_getElem_cons hkl
        rw [HDk.out, List.map_cons] at hr
        obtain ⟨k', p, hp⟩ := LG.place HQ.out HCh.out hr
        have HP : Hid (L.Place i tt (xs.map EntV.e) xs[k].e ((xs.drop (k + 1)).map EntV.e) k' p) := hp
        have hxi : xs[k].i = L.ix + p + 1 := by have h1 : xs[k].e.i = i + k' + 1 := hp.at'; have h2 := hp.pi; have h3 : xs[k].e.i = xs[k].i := rfl; omega
        have HF : Hid (R = if L.done < xs[k].i then ((i + (sx.n : Int), true), L.cut xs[k].e ((xs[k] :: xs.drop (k + 1)).map EntV.e)) else ((0, false), L)) := by
          rw [Hid, ← HR.out]
          unfold LG.match_
          rw [if_pos ⟨HQ.out, HCh.out⟩, hr, List.length_map, HS.out.2.2.2]
          dsimp only
          by_cases h5 : L.done < xs[k].i
          · rw [if_pos h5, if_neg (show ¬ xs[k].e.i ≤ L.done from Int.not_le.2 h5)]
            rfl
          · rw [if_neg h5, if_pos (show xs[k].e.i ≤ L.done from Int.not_lt.1 h5)]
        obtain ⟨g', o, hsp, -, -⟩ := (HE.out w (Turn.refl _ _)).at' (by omega)
        have HKp : Hid (∀ W, Below w.heap.size w W → Calls Try.prog 57 #[.pointer (some ⟨b, 0, none⟩), .slice (some ⟨g', o + k * 13, none⟩) (sx.n - k) (sx.c - k)] W fun e w' => e = .returned (.bool (decide (L.done < xs[k].i))) ∧ Turns13 W b G (if L.done < xs[k].i then L.cut xs[k].e ((xs[k] :: xs.drop (k + 1)).map EntV.e) else L) w') := fun W hb => by
          refine put13_any (HH.out.below hb) ⟨some ⟨g', o + k * 13, none⟩, sx.n - k, sx.c - k⟩ xs[k] (xs.drop (k + 1)) (fun Z hz => ?_) (fun e he => ?_) p hp.le hxi ?_ (fun hd => hp.inv HH.out.inv HCh.out hd) ?_
          · rw [← HDk.out]
            exact (HE.out Z ((Turn.of_below hb (Nat.le_refl _)).trans hz)).drop hkn hsp
          · rw [← HDk.out] at he
            exact goodE_few (chain_few HCh.out e.e (List.mem_map_of_mem (List.mem_of_mem_drop he)))
          · show es.length + (sx.n - k) ≤ _
            have := HS.out.1
            omega
          · rw [List.map_cons, LG.cut_end hp, List.length_map, HS.out.2.2.2]
            have := HS.out.2.1
            omega
        have hkc : k < sx.c := by have := HS.out.2.2.1; omega
        have hkn0 := HS.out.2.2.1
        have ld0 : w4.cell? ⟨w.heap.size, 0, none⟩ = some (.pointer (some ⟨b, 0, none⟩)) := box_cell HX4.out 0
        have hlt0 := box_lt HX4.out
        obtain ⟨px, nx, cx⟩ := sx
        dsimp only at *
        subst hsp
        obtain ⟨x, HX⟩ : ∃ x, Hid (xs[k] = x) := ⟨xs[k], rfl⟩
        rw [HX.out] at HKp HF
        obtain ⟨d, HD⟩ : ∃ d, Hid (decide (L.done < x.i) = d) := ⟨_, rfl⟩
        rw [HD.out] at HKp
        obtain ⟨L2, HL2⟩ : ∃ L2, Hid ((if L.done < x.i then L.cut x.e ((x :: xs.drop (k + 1)).map EntV.e) else L) = L2) := ⟨_, rfl⟩
        rw [HL2.out] at HKp
        have HF2 : Hid (R = if d = true then ((i + (nx : Int), true), L2) else ((0, false), L2)) := by
          rw [Hid, HF.out, ← HD.out, ← HL2.out]
          by_cases h5 : L.done < x.i
          · rw [if_pos h5, if_pos (decide_eq_true h5), if_pos h5]
          · rw [if_neg h5, if_neg (by rw [decide_eq_false h5]; exact Bool.noConfusion), if_neg h5]
        clear hr hp hxi HX HF HDk HP HK3 HK2
        have hk0 : (0 : Int) ≤ (k : Int) := by omega
        go_wp2_with fail
        go_region_with (go_at_call 57; refine (HKp.out _ (by first | exact HB4.out | exact below_ad13 HB4.out)).mono ?_; rintro e w5 ⟨rfl, hT5⟩)
        all_goals
          have HT5 : Hid (Turns13 w b G L2 w5) := hT5.after ((Turn.of_below HB4.out (Nat.le_refl _)).trans (Turn.of_below (below_drew13 w4) (Nat.le_refl _)))
          clear hT5
          cases d with
          | true =>
            go_wp2
            go_ret2
            exact ⟨by rw [HF2.out]; rfl, by rw [HF2.out]; exact HT5.out⟩
          | false =>
            go_wp2
            go_ret2
            exact ⟨by rw [HF2.out]; rfl, by rw [HF2.out]; exact HT5.out⟩
  · have HF : Hid (R = ((0, false), L)) := by
      rw [Hid, ← HR.out]
      unfold LG.match_
      rw [HQ.out, if_neg]
      rintro ⟨h1, -⟩
      simp only [Prod.mk.injEq] at h1
      exact hc ⟨h1.2, h1.1⟩
    rw [HF.out]
    go_enter Try.func14, Try.ntmps14
    go_wp2_with fail
    generalize w.alloc (.cells #[.pointer (some ⟨b, 0, none⟩)] 30) = W1 at *
    refine kt.mono ?_
    rintro _ w2 ⟨rfl, hb2⟩
    have HT : Hid (Turns13 w b G L w2) := .of_below HH.out.log (HB1.out.trans (hb2.mono HB1.out.size))
    clear kt hb2 q0 hlq
    by_cases h2 : c = 0
    · have h3 : tt ≠ t := fun e => hc ⟨h2, e⟩
      subst h2
      have h3' : (tt != t) = true := by rw [bne_iff_ne]; exact h3
      clear hc h3
      go_wp2
      go_ret2
      exact ⟨rfl, HT.out⟩
    · have h2' : (c != 0) = true := by rw [bne_iff_ne]; exact h2
      clear hc h2
      go_wp2
      go_ret2
      exact ⟨rfl, HT.out⟩
end
set_option maxRecDepth 100000 in
set_option maxHeartbeats 1000000 in
theorem hint1_any {w : World} {ub tb : Nat} {T1 T2 : TypeId} {su : Sl10} {us : List EntV} {t : Int} (hu : w.heap[ub]? = some (.cells #[.slice su.p su.n su.c] T1 (0, 0))) (ht : w.heap[tb]? = some (.cells #[.int .i64 t] T2 (0, 0))) (hE : HasE w su us) {k : Nat} (hk : k < su.n) :
    Calls Try.prog 60 #[.int .i64 (k : Nat), .pointer (some ⟨ub, 0, none⟩), .pointer (some ⟨tb, 0, none⟩)] w fun e w' => e = .returned (.bool (decide (t < (us.getD k noEV).t))) ∧ Below w.heap.size w w' := by
  have u0 : w.cell? ⟨ub, 0, none⟩ = some (.slice su.p su.n su.c) := box_cell hu 0
  have t0 : w.cell? ⟨tb, 0, none⟩ = some (.int .i64 t) := box_cell ht 0
  have l1 := box_lt hu
  have l2 := box_lt ht
  have hcc := hE.c
  obtain ⟨g', o, hp, hg, hc⟩ := hE.at' (by omega)
  have c1 : w.cell? ⟨g', o + k * 13 + 1, none⟩ = some (.int .i64 (us.getD k noEV).t) := hc k hk 1 (by decide)
  generalize (us.getD k noEV).t = x at *
  rw [hp] at u0
  clear hu ht hE hp hc
  go_enter Try.func60, Try.ntmps60
  go_wp2
  go_quiet (fail)
  go_wp2
  go_ret
  exact ⟨rfl, below_drewN (Below.refl _ _) _⟩
structure Srch13 (us : List EntV) (t : Int) (a c n : Nat) : Prop where
  ac : a ≤ c
  cn : c ≤ n
  low : ∀ k, k < a → (us.getD k noEV).t ≤ t
  up : ∀ k, c ≤ k → k < n → t < (us.getD k noEV).t
set_option maxRecDepth 100000 in
set_option maxHeartbeats 2000000 in
theorem search13_any {w : World} {ub tb : Nat} {T1 T2 : TypeId} {su : Sl10} {us : List EntV} {t : Int} (hu : w.heap[ub]? = some (.cells #[.slice su.p su.n su.c] T1 (0, 0))) (ht : w.heap[tb]? = some (.cells #[.int .i64 t] T2 (0, 0))) (hE : HasE w su us) (hl : su.n ≤ 1099511627776)
    (hm : ∀ i j, i ≤ j → j < su.n → (us.getD i noEV).t ≤ (us.getD j noEV).t) :
    Calls Try.prog 59 #[.int .i64 (su.n : Nat), .func (.func 60) #[] #[.pointer (some ⟨ub, 0, none⟩), .pointer (some ⟨tb, 0, none⟩)]] w fun e w' => (∃ r : Nat, e = .returned (.int .i64 r) ∧ Srch13 us t r r su.n) ∧ Below w.heap.size w w' := by
  have HU : Hid _ := hu
  have HT : Hid _ := ht
  have HE : Hid (HasE w su us) := hE
  have HM : Hid (∀ i j, i ≤ j → j < su.n → (us.getD i noEV).t ≤ (us.getD j noEV).t) := hm
  have HK : Hid (∀ W k, Below w.heap.size w W → k < su.n → _) := fun W k hb hk => hint1_any (w := W) (box_below hu hb) (box_below ht hb) (hE.below hb) (k := k) hk
  clear hu ht hE hm
  generalize su.n = n at *
  go_enter Try.func59, Try.ntmps59
  go_wp2
  go_loopw [5, 6, 7] (fun s5 s6 s7 wr => ∃ a c : Nat, s5 = .int .i64 (a : Nat) ∧ s6 = .int .i64 (c : Nat) ∧ Hid (Srch13 us t a c n) ∧ Below w.heap.size w wr) (fun s5 s6 _ _ => (intOf s6).toNat - (intOf s5).toNat)
  case atStart => exact ⟨0, n, rfl, rfl, ⟨Nat.zero_le _, Nat.le_refl _, fun _ h => absurd h (Nat.not_lt_zero _), fun _ h1 h2 => absurd h2 (Nat.not_lt.2 h1)⟩, Below.refl _ _⟩
  case round =>
    obtain ⟨a, c, rfl, rfl, HS, hb⟩ := hrel
    have hac := HS.out.ac
    have hcn := HS.out.cn
    by_cases hlt : a < c
    · obtain ⟨h, hh⟩ : ∃ h, h = (a + c) / 2 := ⟨_, rfl⟩
      have h1 : a ≤ h := by omega
      have h2 : h < c := by omega
      have km := HK.out wr h hb (by omega)
      have w1 : IntKind.i64.wrap ((a : Int) + (c : Int)) = ((a + c : Nat) : Int) := by rw [IntKind.wrap_i64]; omega
      have w2 : ((a : Int) + (c : Int)) / 2 = (h : Int) := by omega
      have HM1 : Hid (∀ k, k < h + 1 → (us.getD k noEV).t ≤ (us.getD h noEV).t) := fun k hk => HM.out k h (by omega) (by omega)
      have HM2 : Hid (∀ k, h ≤ k → k < n → (us.getD h noEV).t ≤ (us.getD k noEV).t) := fun k hk hk2 => HM.out h k hk hk2
      generalize (us.getD h noEV).t = x at *
      have hent := enters_of Try.func60 (by kernel_rfl) rfl
      clear hh
      go_wp2_with fail
      refine km.mono ?_
      rintro _ w2 ⟨rfl, hb2⟩
      have HB2 : Hid (Below w.heap.size w w2) := hb.trans (hb2.mono hb.size)
      clear km hb2 hent
      obtain ⟨d, hd⟩ : ∃ d, decide (t < x) = d := ⟨_, rfl⟩
      rw [hd]
      cases d with
      | true =>
        have hx : t < x := of_decide_eq_true hd
        have HS2 : Hid (Srch13 us t a h n) := ⟨h1, by omega, HS.out.low, fun k hk hk2 => by have := HM2.out k hk hk2; omega⟩
        clear hd hx
        go_wp2
        go_roundw
        case rel => exact ⟨a, h, rfl, rfl, HS2, HB2.out⟩
        case measure => simp only [intOf]; omega
      | false =>
        have hx : ¬ t < x := of_decide_eq_false hd
        have HS2 : Hid (Srch13 us t (h + 1) c n) := ⟨by omega, hcn, fun k hk => by have := HM1.out k hk; omega, HS.out.up⟩
        clear hd hx
        go_wp2
        go_roundw
        case rel => exact ⟨h + 1, c, by go_num, rfl, HS2, HB2.out⟩
        case measure => simp only [intOf]; omega
    · obtain rfl : a = c := by omega
      go_wp2
      go_ret
      exact ⟨⟨a, rfl, HS.out⟩, hb⟩
theorem hintN_srch13 {L : LG} {es : List EntV} (hm : es.map EntV.e = L.l) {t : Int} : ∀ {n r : Nat}, n ≤ L.l.length → Srch13 es t r r n → L.hintN t n = L.ix + r
  | 0, r, _, h => by have := h.cn; obtain rfl : r = 0 := (by omega); show L.ix = L.ix + 0; omega
  | n + 1, r, hn, h => by
    have ht : (L.term (L.ix + n + 1)).1 = (es.getD n noEV).t := by rw [LG.term_at (by omega), ← entGet13 hm (by omega)]; rfl
    unfold LG.hintN
    rw [ht]
    rcases Nat.lt_or_ge n r with h1 | h1
    · have h2 := h.cn
      obtain rfl : r = n + 1 := by omega
      rw [if_pos (h.low n h1)]
      omega
    · rw [if_neg (by have := h.up n h1 (by omega); omega)]
      exact hintN_srch13 hm (by omega) ⟨Nat.le_refl _, h1, h.low, fun k hk hk2 => h.up k hk (by omega)⟩
theorem Srch13.of_take {es : List EntV} {t : Int} {r n : Nat} (h : Srch13 (es.take n) t r r n) : Srch13 es t r r n := by
  have e : ∀ k, k < n → (es.take n).getD k noEV = es.getD k noEV := fun k hk => by rw [List.getD_eq_getElem?_getD, List.getD_eq_getElem?_getD, List.getElem?_take_of_lt hk]
  refine ⟨h.ac, h.cn, fun k hk => ?_, fun k hk hk2 => ?_⟩
  · rw [← e k (by have := h.cn; omega)]; exact h.low k hk
  · rw [← e k hk2]; exact h.up k hk hk2
structure Fin13 (w Z : World) (ub tb : Nat) (t : Int) (cs : Sl10) : Prop where
  bel : Below w.heap.size w Z
  u : Z.heap[ub]? = some (.cells #[.slice cs.p cs.n cs.c] 22 (0, 0))
  t : Z.heap[tb]? = some (.cells #[.int .i64 t] 3 (0, 0))
theorem Fin13.make {w W1 Z : World} {t : Int} {cs : Sl10} (hb : Below w.heap.size w W1) (ht : W1.heap[w.heap.size]? = some (.cells #[.int .i64 t] 3 (0, 0))) (h1 : Below W1.heap.size W1 Z) (h2 : Z.heap[W1.heap.size]? = some (.cells #[.slice none 0 0] 22 (0, 0))) : Fin13 w (Z.setCell ⟨W1.heap.size, 0, none⟩ (.slice cs.p cs.n cs.c)) W1.heap.size w.heap.size t cs := by
  have hS : Below W1.heap.size W1 (Z.setCell ⟨W1.heap.size, 0, none⟩ (.slice cs.p cs.n cs.c)) := h1.setCell (Nat.le_refl _) _
  exact ⟨hb.trans (hS.mono hb.size), set_block9 h2 0 _ (by show 0 < 1; decide), box_below ht hS⟩
structure Bel13 (w W : World) : Prop where
  out : Below w.heap.size w W
theorem kr13 {w wA wB : World} {b c i j : Nat} {u v : Value} (hl : b < w.heap.size) (hm : c < w.heap.size) (h : wA.cell? ⟨b, i, none⟩ = some u ∧ wA.cell? ⟨c, j, none⟩ = some v ∧ Below w.heap.size w wA) (hb : Below wA.heap.size wA wB) : wB.cell? ⟨b, i, none⟩ = some u ∧ wB.cell? ⟨c, j, none⟩ = some v ∧ Below w.heap.size w wB :=
  ⟨(hb.cell (p := ⟨b, i, none⟩) (Nat.lt_of_lt_of_le hl h.2.2.size)).trans h.1, (hb.cell (p := ⟨c, j, none⟩) (Nat.lt_of_lt_of_le hm h.2.2.size)).trans h.2.1, h.2.2.trans (hb.mono h.2.2.size)⟩
theorem kr13b {w wA : World} {b c i j : Nat} {u v : Value} (h : wA.cell? ⟨b, i, none⟩ = some u ∧ wA.cell? ⟨c, j, none⟩ = some v ∧ Below w.heap.size w wA) : Below w.heap.size w wA := h.2.2
section
variable {w : World} {b : Nat} {G : Nat → Prop} {s : Sl10} {es : List EntV} {g : Int} {L : LG}
theorem LogG.mono13 (h : LogG w b G s es g L) {i j : Nat} (hij : i ≤ j) (hj : j < L.l.length) : (es.getD i noEV).t ≤ (es.getD j noEV).t := by
  have h1 := entGet13 h.map (j := i) (by omega)
  have h2 := entGet13 h.map hj
  have h3 := chain_mono13 h.inv.row hij hj
  rw [← h1, ← h2] at h3
  exact h3
set_option maxRecDepth 100000 in
set_option maxHeartbeats 2000000 in
theorem hint13_any (h : LogG w b G s es g L) (i t : Int) (hi : inI i) :
    Calls Try.prog 20 #[.pointer (some ⟨b, 0, none⟩), .int .i64 i, .int .i64 t] w fun e w' => e = .returned (.int .i64 (L.hint i t)) ∧ Below w.heap.size w w' := by
  have hB1 : Below w.heap.size w (w.alloc (.cells #[.int .i64 t] 3)) := (Below.refl _ w).alloc (Nat.le_refl _) _
  have hbx := heap_alloc_new w (.cells #[.int .i64 t] 3)
  have hL1 := h.below hB1
  have kn := none13_any hL1
  have c1 : (w.alloc (.cells #[.int .i64 t] 3)).cell? ⟨b, 1, none⟩ = some (.int .i64 L.ix) := hL1.cells.2.1
  have hlb := hL1.lt
  have HN : Hid (Nums13 L s.n) := h.nums
  have HB1 : Hid _ := hB1
  have HBX : Hid _ := hbx
  have HH : Hid (LogG w b G s es g L) := h
  have w1 : IntKind.i64.wrap (L.ix + 1) = L.ix + 1 := by rw [IntKind.wrap_i64]; have := HN.out.x0; have := HN.out.x1; omega
  have HL : Hid (∀ W, Below w.heap.size w W → Calls Try.prog 52 #[.pointer (some ⟨b, 0, none⟩)] W fun e w' => e = .returned (.int .i64 L.end) ∧ ∃ m, w' = W.drewN m) := fun W hb => last13q (h.below hb)
  have HC : Hid (∀ W, Below w.heap.size w W → Calls Try.prog 53 #[.pointer (some ⟨b, 0, none⟩), .int .i64 (L.ix + 1), .int .i64 (min i L.end)] W fun e w' => e = .returned (.slice (cutS13 s L.ix (L.ix + 1) (min i L.end)).p (cutS13 s L.ix (L.ix + 1) (min i L.end)).n (cutS13 s L.ix (L.ix + 1) (min i L.end)).c) ∧ ∃ m, w' = W.drewN m) := fun W hb => cut13q (h.below hb) (L.ix + 1) (min i L.end) (by omega) (by have := HN.out.x1; omega) (by have := hi.1; have := HN.out.x0; have := h.le_end; omega) (by omega)
  have HR : Hid (∀ W, Below w.heap.size w W → Cut13 W G s es L (L.ix + 1) (min i L.end) (cutS13 s L.ix (L.ix + 1) (min i L.end))) := fun W hb => (h.below hb).cut (L.ix + 1) (min i L.end) (by omega) (by omega)
  generalize cutS13 s L.ix (L.ix + 1) (min i L.end) = cs at *
  have hcn : cs.n = (min i L.end - L.ix).toNat := by rw [(HR.out w (Below.refl _ _)).n]; congr 1; omega
  have HRow : Hid (∀ W, Below w.heap.size w W → HasE W cs (es.take cs.n)) := fun W hb => by
    have := (HR.out W hb).row.has
    rwa [show (L.ix + 1 - L.ix - 1).toNat = 0 by omega, List.drop_zero, show (min i L.end - (L.ix + 1) + 1).toNat = cs.n by rw [hcn]; congr 1; omega] at this
  have hcl : cs.n ≤ L.l.length := by have : L.end = L.ix + L.l.length := rfl; omega
  have HCn : Hid (cs.n ≤ L.l.length ∧ cs.n ≤ 1099511627776) := ⟨hcl, by have := HN.out.n1; have := h.n; omega⟩
  have HMo : Hid (∀ i j, i ≤ j → j < cs.n → ((es.take cs.n).getD i noEV).t ≤ ((es.take cs.n).getD j noEV).t) := fun i j hij hj => by
    have e : ∀ k, k < cs.n → (es.take cs.n).getD k noEV = es.getD k noEV := fun k hk => by rw [List.getD_eq_getElem?_getD, List.getD_eq_getElem?_getD, List.getElem?_take_of_lt hk]
    rw [e i (by omega), e j hj]
    exact h.mono13 hij (by omega)
  have HF0 : Hid (∀ r, Srch13 (es.take cs.n) t r r cs.n → L.hint i t = L.ix + r) := fun r hr => by
    have h1 := hintN_srch13 h.map hcl hr.of_take
    unfold LG.hint
    rw [← h1, hcn]
    congr 2
    split <;> omega
  obtain ⟨R, HRr⟩ : ∃ R, Hid (L.hint i t = R) := ⟨_, rfl⟩
  rw [HRr.out] at HF0 ⊢
  clear h hB1 hbx hL1 hcl hcn HR
  go_enter Try.func20, Try.ntmps20
  go_wp2_with fail
  generalize w.alloc (.cells #[.int .i64 t] 3) = W1 at *
  refine same_mono kn ?_
  have hlw : w.heap.size < W1.heap.size := box_lt HBX.out
  go_wp2_with fail
  clear kn
  have A1 : ∀ m, ((W1.drewN m).alloc (.cells #[.slice none 0 0] 22)).cell? ⟨W1.heap.size, 0, none⟩ = some (.slice none 0 0) := fun m => box_cell (heap_alloc_new (W1.drewN m) (.cells #[.slice none 0 0] 22)) 0
  have A2 : ∀ m, ((W1.drewN m).alloc (.cells #[.slice none 0 0] 22)).frozen? ⟨W1.heap.size, 0, none⟩ = false := fun m => frozen9 (heap_alloc_new (W1.drewN m) (.cells #[.slice none 0 0] 22)) 0
  have A3 : ∀ m, ((W1.drewN m).alloc (.cells #[.slice none 0 0] 22)).cell? ⟨b, 1, none⟩ = some (.int .i64 L.ix) := fun m => (((Below.refl _ (W1.drewN m)).alloc (Nat.le_refl _) (.cells #[.slice none 0 0] 22)).cell (p := ⟨b, 1, none⟩) hlb).trans c1
  have F1 : Hid (∀ m, Fin13 w (((W1.drewN m).alloc (.cells #[.slice none 0 0] 22)).setCell ⟨W1.heap.size, 0, none⟩ (.slice cs.p cs.n cs.c)) W1.heap.size w.heap.size t cs) := fun m => Fin13.make HB1.out HBX.out ((below_drewN (Below.refl _ _) m).alloc (Nat.le_refl _) _) (heap_alloc_new (W1.drewN m) _)
  have F2 : Hid (∀ m m', Fin13 w ((((W1.drewN m).alloc (.cells #[.slice none 0 0] 22)).drewN m').setCell ⟨W1.heap.size, 0, none⟩ (.slice cs.p cs.n cs.c)) W1.heap.size w.heap.size t cs) := fun m m' => Fin13.make HB1.out HBX.out (below_drewN8 ((below_drewN (Below.refl _ _) m).alloc (Nat.le_refl _) _) m') (heap_alloc_new (W1.drewN m) _)
  go_region_law (first
    | (go_simp; go_at_call 52; refine (HL.out _ (by (repeat (first | exact HB1.out | refine below_ad13 ?_ | refine below_drewN ?_ _ | refine below_same13 ?_ _)))).mono ?_; rintro _ w4 ⟨rfl, m4, rfl⟩; dsimp only)
    | (go_simp; go_at_call 53; refine (HC.out _ (by (repeat (first | exact HB1.out | refine below_ad13 ?_ | refine below_drewN ?_ _ | refine below_same13 ?_ _)))).mono ?_; rintro _ w5 ⟨rfl, m5, rfl⟩; dsimp only))
  all_goals
    generalize hZ : World.setCell _ ⟨W1.heap.size, 0, none⟩ (.slice cs.p cs.n cs.c) = Z
    have hF : Fin13 w Z W1.heap.size w.heap.size t cs := by rw [← hZ]; first | exact F1.out _ | exact F2.out _ _
    clear hZ A1 A2 A3 c1 hlb hlw HL HC
    have HF : Hid _ := hF
    have hb := HF.out.bel
    have KS : Hid (∀ W, Below Z.heap.size Z W → Calls Try.prog 59 #[.int .i64 (cs.n : Nat), .func (.func 60) #[] #[.pointer (some ⟨W1.heap.size, 0, none⟩), .pointer (some ⟨w.heap.size, 0, none⟩)]] W fun e w' => (∃ r : Nat, e = .returned (.int .i64 r) ∧ Srch13 (es.take cs.n) t r r cs.n) ∧ Below W.heap.size W w') := fun W hbW => search13_any (box_below HF.out.u hbW) (box_below HF.out.t hbW) (HRow.out W (hb.trans (hbW.mono hb.size))) HCn.out.2 HMo.out
    have z1 : Z.drew.cell? ⟨b, 1, none⟩ = some (.int .i64 L.ix) := (HH.out.below hb).cells.2.1
    have z2 : Z.drew.cell? ⟨W1.heap.size, 0, none⟩ = some (.slice cs.p cs.n cs.c) := box_cell HF.out.u 0
    have l1 : b < Z.heap.size := (HH.out.below hb).lt
    have l2 : W1.heap.size < Z.heap.size := box_lt HF.out.u
    have s0 : Z.drew.cell? ⟨b, 1, none⟩ = some (.int .i64 L.ix) ∧ Z.drew.cell? ⟨W1.heap.size, 0, none⟩ = some (.slice cs.p cs.n cs.c) ∧ Below Z.heap.size Z Z.drew := ⟨z1, z2, below_drew13 Z⟩
    have HBZ : Hid (∀ W, Below Z.heap.size Z W → Bel13 w W) := fun W hW => ⟨hb.trans (hW.mono hb.size)⟩
    clear z1 z2 hb HRow HB1 HBX F1 F2 hF
    generalize W1.heap.size = ub at *
    generalize w.heap.size = tb at *
    have hent := enters_of Try.func60 (by kernel_rfl) rfl
    go_wp2_with fail
    go_region_held3 (fun w' => w'.cell? ⟨b, 1, none⟩ = some (.int .i64 L.ix) ∧ w'.cell? ⟨ub, 0, none⟩ = some (.slice cs.p cs.n cs.c) ∧ Below Z.heap.size Z w')
      (first | exact s0 | assumption | exact kr13 l1 l2 (by assumption) (by assumption))
      (first
        | (go_at_call 59; (with_reducible refine Calls.mono (KS.out _ (kr13b (by assumption))) ?_); rintro e7 w7 ⟨⟨r, rfl, hS7⟩, hb7⟩))
    have hrn : r ≤ cs.n := hS7.cn
    have hwr : IntKind.i64.wrap (L.ix + (r : Int)) = L.ix + (r : Int) := by rw [IntKind.wrap_i64]; have := HN.out.x0; have := HN.out.x1; have := HCn.out.2; omega
    have HF7 : Hid (R = L.ix + r) := HF0.out r hS7
    have HB7 : Hid (Bel13 w w7) := HBZ.out w7 (kr13b (by assumption))
    rw [hwr]
    clear s0 hb7 hS7 hwr hrn KS
    go_wp2
    go_ret
    exact ⟨by rw [HF7.out]; rfl, HB7.out.out⟩
end
end Go.Proofs.Ytephoegcpjdglaa

namespace Go.Proofs.Ytephoegcpjdglaa
open Go.RowKit Go.Shelf
attribute [local go_sem ↓] ldE_exec stE_exec ldE_execI stE_execI ldE_run ldE_box ldC_exec stC_exec ldC_execI stC_execI ldC_run oc_int oc_bool oc_string oc_slice oc_pointer
structure Lg13 (w0 w : World) (b : Nat) (G : Nat → Prop) (L : LG) : Prop where
  log : Log13 w b G L
  own : ∀ k, G k → w0.heap.size ≤ k ∧ k < w.heap.size
  ob : w0.heap.size ≤ b
  bel : Below w0.heap.size w0 w
section
variable {w0 w w' : World} {b : Nat} {G : Nat → Prop} {L L' : LG}
theorem Lg13.lt (h : Lg13 w0 w b G L) : b < w.heap.size := by
  obtain ⟨s, es, g, hl⟩ := h.log
  exact hl.lt
theorem Lg13.foot (h : Lg13 w0 w b G L) : ∀ k, (k = b ∨ G k) → w0.heap.size ≤ k := fun k hk => by
  rcases hk with rfl | hk
  · exact h.ob
  · exact (h.own k hk).1
theorem Lg13.below (h : Lg13 w0 w b G L) (hb : Below w.heap.size w w') : Lg13 w0 w' b G L := ⟨h.log.below hb, fun k hk => ⟨(h.own k hk).1, Nat.lt_of_lt_of_le (h.own k hk).2 hb.size⟩, h.ob, h.bel.trans (hb.mono h.bel.size)⟩
theorem Lg13.turns (h : Lg13 w0 w b G L) (ht : Turns13 w b G L' w') : Lg13 w0 w' b (more8 G w w') L' := by
  have hz := ht.turn.size
  have hz0 := h.bel.size
  refine ⟨ht.log, fun k hk => ?_, h.ob, h.bel.trans (ht.turn.below h.foot h.bel.size)⟩
  rcases hk with hk | hk
  · exact ⟨(h.own k hk).1, Nat.lt_of_lt_of_le (h.own k hk).2 hz⟩
  · exact ⟨by omega, hk.2⟩
theorem Lg13.args (h : Lg13 w0 w b G L) {W : World} (ht : Turn (fun k => k = b ∨ G k) w W) : Below w0.heap.size w0 W := h.bel.trans (ht.below h.foot h.bel.size)
theorem lg13_new {e : Ending} (hb : Below w0.heap.size w0 w) (h : NewE13 w (some L) e w') : ∃ b, e = .returned (.pointer (some ⟨b, 0, none⟩)) ∧ w.heap.size ≤ b ∧ Lg13 w0 w' b (fun k => w.heap.size ≤ k ∧ k < w'.heap.size) L := by
  obtain ⟨b, he, h1, h2, h3⟩ := h.yes L rfl
  have hz := hb.size
  exact ⟨b, he, h1, h3, fun k hk => ⟨by omega, hk.2⟩, by omega, hb.trans (h.bel.mono hz)⟩
end

def noopV13 (i t : Int) : EntV := ⟨i, t, 1, zeroC9, noFV⟩
theorem in1_13 : inI 1 := by unfold inI; exact ⟨by decide, by decide⟩
theorem in2_13 : inI 2 := by unfold inI; exact ⟨by decide, by decide⟩
theorem in3_13 : inI 3 := by unfold inI; exact ⟨by decide, by decide⟩
theorem fits_noop13 (w : World) {i t : Int} (hi : inI i) (ht : inI t) : FitsE w (noopV13 i t) := ⟨hi, ht, in1_13, fits_zeroC, FitsF.nil w⟩
set_option maxRecDepth 100000 in
set_option maxHeartbeats 1000000 in
theorem noop13_any (w : World) (i t : Int) : Calls Try.prog 19 #[.int .i64 i, .int .i64 t] w fun e w' => e = .returned (.agg (noopV13 i t).arr) ∧ Below w.heap.size w w' := by
  have hB1 : Below w.heap.size w (w.alloc (.cells #[.int .i64 0, .int .i64 0, .int .i64 0, .int .i64 0, .int .i64 0, .int .i64 0, .string ⟨#[]⟩, .string ⟨#[]⟩, .string ⟨#[]⟩, .string ⟨#[]⟩, .int .i64 0, .slice none 0 0, .slice none 0 0] 51)) := (Below.refl _ w).alloc (Nat.le_refl _) _
  have hbx := heap_alloc_new w (.cells #[.int .i64 0, .int .i64 0, .int .i64 0, .int .i64 0, .int .i64 0, .int .i64 0, .string ⟨#[]⟩, .string ⟨#[]⟩, .string ⟨#[]⟩, .string ⟨#[]⟩, .int .i64 0, .slice none 0 0, .slice none 0 0] 51)
  have hth := there_box hbx 0 13 (Nat.le_refl _)
  have hst := stE_arr 0 (noopV13 i t) hth
  have hF := setE_box (noopV13 i t) hbx rfl
  have hB9 := setCells_below (Nat.le_refl w.heap.size) (noopV13 i t).arr.toList 0 hB1
  unfold noopV13 EntV.arr zeroC9 noFV nilS10 at *
  dsimp only at *
  go_enter Try.func19, Try.ntmps19
  go_wp2
  refine bodyPost_ret (ret_one rfl _ _ w.heap.size _ _ _ _ rfl hF Try.underlying51 rfl (by kernel_rfl)) rfl ⟨rfl, hB9⟩

def bsE3 (x y z : Value) : Sem Value := Instr.buildSlice 22 3 #[(0, x), (1, y), (2, z)]
theorem bsE3_exec (ρ : Operand → Value) (d : Option Tmp) (x y z : Operand) (t : TypeId) (p : String) (af : Array Edge) (g : Option (Nat × Bool)) (w : World) : (execOp ρ { dst := d, op := .buildSlice 22 3 #[(0, x), (1, y), (2, z)], type := t, pos := p, after := af, guard := g }).run Try.prog w = ((bsE3 (ρ x) (ρ y) (ρ z)).run Try.prog w).andThen fun v w' => .ok (.value v) w' := by
  unfold execOp bsE3
  simp only [Sem.run_bind, Sem.run_pure, List.map_toArray, List.map_cons, List.map_nil]
set_option maxRecDepth 100000 in
theorem bsE3_run (w : World) (x y z : EntV) : (bsE3 (.agg x.arr) (.agg y.arr) (.agg z.arr)).run Try.prog w = .ok (.slice (some ⟨w.heap.size, 0, none⟩) 3 3) (w.alloc (.cells (x.arr ++ y.arr ++ z.arr) 51)) := by
  obtain ⟨xi, xt, xk, ⟨ck, cs, cq, ckey, cold, cval, cunt, clim⟩, ⟨⟨p1, n1, c1⟩, ⟨q1, m1, d1⟩, f1⟩⟩ := x
  obtain ⟨yi, yt, yk, ⟨dk, ds, dq, dkey, dold, dval, dunt, dlim⟩, ⟨⟨p2, n2, c2⟩, ⟨q2, m2, d2⟩, f2⟩⟩ := y
  obtain ⟨zi, zt, zk, ⟨ek, es, eq, ekey, eold, eval, eunt, elim⟩, ⟨⟨p3, n3, c3⟩, ⟨q3, m3, d3⟩, f3⟩⟩ := z
  unfold bsE3 EntV.arr
  go_simp
theorem eArr13 (x : EntV) : x.arr.size = 13 := rfl
theorem hasE13_at {w : World} {k : Nat} {x : EntV} (h : w.heap[k]? = some (.cells x.arr 51 (0, 0))) (hx : FitsE w x) : HasE w ⟨some ⟨k, 0, none⟩, 1, 1⟩ [x] := by
  refine ⟨rfl, Nat.le_refl _, (fun h => by cases h), fun _ => ⟨k, 0, rfl, box_lt h, fun i hi j hj => ?_⟩, fun e he => ?_⟩
  · have hi0 : i = 0 := by have : i < 1 := hi; omega
    subst hi0
    rw [box_cell h]
    show x.arr[0 + 0 * 13 + j]? = x.arr[j]?
    rw [Nat.zero_mul, Nat.zero_add]
  · rw [List.mem_singleton.1 he]
    exact hx
theorem hasE13_three (w : World) (x y z : EntV) (hx : FitsE w x) (hy : FitsE w y) (hz : FitsE w z) : HasE (w.alloc (.cells (x.arr ++ y.arr ++ z.arr) 51)) ⟨some ⟨w.heap.size, 0, none⟩, 3, 3⟩ [x, y, z] := by
  have hb : Below w.heap.size w (w.alloc (.cells (x.arr ++ y.arr ++ z.arr) 51)) := (Below.refl _ w).alloc (Nat.le_refl _) _
  refine ⟨rfl, Nat.le_refl _, (fun h => by cases h), fun _ => ⟨w.heap.size, 0, rfl, by simp, fun i hi j hj => ?_⟩, fun e he => ?_⟩
  · rw [box_cell (heap_alloc_new w _)]
    have h2 : (x.arr ++ y.arr).size = 26 := by rw [Array.size_append, eArr13, eArr13]
    have hi2 : i = 0 ∨ i = 1 ∨ i = 2 := by have : i < 3 := hi; omega
    rcases hi2 with rfl | rfl | rfl
    · show (x.arr ++ y.arr ++ z.arr)[0 + 0 * 13 + j]? = x.arr[j]?
      rw [Nat.zero_mul, Nat.zero_add, Array.getElem?_append_left (by rw [h2]; omega), Array.getElem?_append_left (by rw [eArr13]; exact hj)]
    · show (x.arr ++ y.arr ++ z.arr)[0 + 1 * 13 + j]? = y.arr[j]?
      rw [Nat.one_mul, Nat.zero_add, Array.getElem?_append_left (by rw [h2]; omega), Array.getElem?_append_right (by rw [eArr13]; omega), eArr13, Nat.add_sub_cancel_left]
    · show (x.arr ++ y.arr ++ z.arr)[0 + 2 * 13 + j]? = z.arr[j]?
      rw [Nat.zero_add, Array.getElem?_append_right (by rw [h2]; omega), h2, show 2 * 13 + j - 26 = j by omega]
  · simp only [List.mem_cons, List.not_mem_nil, or_false] at he
    rcases he with rfl | rfl | rfl
    · exact hx.below hb
    · exact hy.below hb
    · exact hz.below hb
attribute [local go_sem ↓] bsE_exec bsE_execI bsE_run bsE3_exec bsE3_run
def lL0 : LG := ⟨0, 0, [noopV13 1 1, noopV13 2 1, noopV13 3 1].map EntV.e, 0, 0, 3⟩
theorem lL0_new : new13 0 0 ([noopV13 1 1, noopV13 2 1, noopV13 3 1].map EntV.e) = some lL0 := if_pos ⟨by decide, by decide, by decide, by decide +kernel⟩
theorem lL0_hint : lL0.hint 9 1 = 3 := by decide +kernel
def lL1 : LG := (lL0.match_ 2 1 ([noopV13 3 2].map EntV.e)).2
theorem lL1_is : (lL0.match_ 2 1 ([noopV13 3 2].map EntV.e)).1.1 = 3 ∧ (lL0.match_ 2 1 ([noopV13 3 2].map EntV.e)).1.2 = true ∧ lL1.endT = 2 ∧ lL1.safe = 2 ∧ lL1.unsure.length = 1 := by
  refine ⟨by decide +kernel, by decide +kernel, by decide +kernel, by decide +kernel, by decide +kernel⟩

set_option maxRecDepth 100000 in
set_option maxHeartbeats 2000000 in
theorem lives13_any (w : World) : Calls Try.prog 6 #[] w fun e w' => e = .returned (.bool true) ∧ Below w.heap.size w w' := by
  go_enter Try.func6, Try.ntmps6
  go_wp2_with fail
  refine (noop13_any w 1 1).mono ?_
  rintro _ w1 ⟨rfl, hb1⟩
  go_wp2_with fail
  refine (noop13_any w1 2 1).mono ?_
  rintro _ w2 ⟨rfl, hb2⟩
  go_wp2_with fail
  refine (noop13_any w2 3 1).mono ?_
  rintro _ w3 ⟨rfl, hb3⟩
  have hB3 := (hb1.trans (hb2.mono hb1.size)).trans (hb3.mono (Nat.le_trans hb1.size hb2.size))
  have hE := hasE13_three w3 (noopV13 1 1) (noopV13 2 1) (noopV13 3 1) (fits_noop13 _ in1_13 in1_13) (fits_noop13 _ in2_13 in1_13) (fits_noop13 _ in3_13 in1_13)
  have kn := new13_any (w3.alloc (.cells ((noopV13 1 1).arr ++ (noopV13 2 1).arr ++ (noopV13 3 1).arr) 51)) 0 0 ⟨some ⟨w3.heap.size, 0, none⟩, 3, 3⟩ _ hE (show 3 ≤ 837723144948 by decide) (show inI 0 by unfold inI; exact ⟨by decide, by decide⟩)
  rw [lL0_new] at kn
  have HB4 : Hid (Below w.heap.size w (w3.alloc (.cells ((noopV13 1 1).arr ++ (noopV13 2 1).arr ++ (noopV13 3 1).arr) 51))) := below_same13 hB3 _
  clear hb1 hb2 hb3 hB3 hE
  go_wp2_with fail
  refine kn.mono ?_
  intro e w5 hN
  obtain ⟨b, rfl, hbb, hL⟩ := lg13_new HB4.out hN
  clear kn hN
  obtain ⟨s, es, g, hLG⟩ := hL.log
  have kh := hint13_any hLG 9 1 (by unfold inI; exact ⟨by decide, by decide⟩)
  rw [lL0_hint] at kh
  have HL : Hid _ := hL
  clear hLG hL
  go_wp2_with fail
  refine kh.mono ?_
  rintro _ w6 ⟨rfl, hb6⟩
  have HL6 : Hid _ := HL.out.below hb6
  clear kh hb6 HL
  go_wp2_with fail
  refine (noop13_any w6 3 2).mono ?_
  rintro _ w7 ⟨rfl, hb7⟩
  have hL7 := HL6.out.below hb7
  have hba : Below w7.heap.size w7 (w7.alloc (.cells (noopV13 3 2).arr 51)) := (Below.refl _ _).alloc (Nat.le_refl _) _
  have hL8 := hL7.below hba
  obtain ⟨s, es, g, hLG⟩ := hL8.log
  have hlt7 := hL7.lt
  have hlen : es.length = 3 := hLG.len
  have km := match13_any hLG 2 1 ⟨some ⟨w7.heap.size, 0, none⟩, 1, 1⟩ [noopV13 3 2] (fun W ht => by
    refine hasE13_at ((ht.block w7.heap.size (box_lt (heap_alloc_new w7 _)) ?_).trans (heap_alloc_new w7 _)) (fits_noop13 _ in3_13 in2_13)
    rintro (h | h)
    · omega
    · have := (hL7.own _ h).2
      omega) in2_13 (show es.length + 1 ≤ _ by omega) (show lL0.end + 1 ≤ _ by decide +kernel)
  have hL1 := lL1_is
  unfold lL1 at hL1
  rw [hL1.1, hL1.2.1] at km
  have HL8 : Hid _ := hL8
  clear hb7 hL7 hba hL8 hLG hlt7 hlen HL6
  go_wp2_with fail
  refine km.mono ?_
  rintro _ w9 ⟨rfl, hT⟩
  have hL9 := HL8.out.turns hT
  obtain ⟨s, es, g, hLG⟩ := hL9.log
  have kl := lastT13_any hLG
  rw [hL1.2.2.1] at kl
  have HL9 : Hid _ := hL9
  clear km hT hL9 hLG HL8
  go_wp2_with fail
  refine kl.mono ?_
  rintro _ w10 ⟨rfl, hb10⟩
  have hL10 := HL9.out.below hb10
  obtain ⟨s, es, g, hLG⟩ := hL10.log
  have ks := safe13_any hLG
  have ku := unsure13_any hLG
  rw [hL1.2.2.2.1] at ks
  have HL10 : Hid _ := hL10
  clear kl hb10 hL10 hLG HL9
  go_wp2_with fail
  refine same_mono ks ?_
  go_wp2_with fail
  refine ku.mono ?_
  rintro _ w11 ⟨s', ys, rfl, ho, hm, hb11⟩
  have hn : s'.n = 1 := by
    have h1 := ho.fits.n
    have h2 := congrArg List.length hm
    rw [List.length_map, hL1.2.2.2.2] at h2
    omega
  have HB : Hid (Below w.heap.size w w11) := (HL10.out.below hb11).bel
  rw [hn]
  clear ks ku ho hm hb11 hL1 HL10
  go_wp2
  go_ret
  exact ⟨rfl, HB.out⟩
end Go.Proofs.Ytephoegcpjdglaa

namespace Go.Proofs.Ytephoegcpjdglaa
open Go.RowKit Go.Shelf
attribute [local go_sem ↓] ldE_exec stE_exec ldE_execI stE_execI ldE_run ldE_box ldC_exec stC_exec ldC_execI stC_execI ldC_run oc_int oc_bool oc_string oc_slice oc_pointer
def sum13 : List Ent10 → Nat
  | [] => 0
  | e :: l => weightE e + sum13 l
theorem sum_len13 : ∀ l : List Ent10, l.length ≤ sum13 l
  | [] => Nat.le_refl _
  | e :: l => by
    have h := sum_len13 l
    have : 1 ≤ weightE e := by unfold weightE; omega
    rw [sum13, List.length_cons]
    omega
def heavy13 (l : List Ent10) : Bool := decide (200 < sum13 l)
theorem weight_lt13 {x : EntV} {w : World} (h : FitsE w x) : weightE x.e ≤ 1125899906842624 := by
  obtain ⟨s1, s2, s3, s4, -⟩ := h.c
  have l1 := h.f.lu
  have l2 := h.f.lv
  unfold weightE
  show 1 + (x.c.key.size + x.c.old.size + x.c.val.size + x.c.unt.size) / 20 + x.f.f.vs.length + x.f.f.ls.length ≤ _
  omega

set_option maxRecDepth 100000 in
set_option maxHeartbeats 1000000 in
theorem heavy13_any (w : World) (s : Sl10) (es : List EntV) (hE : HasE w s es) (hl : s.n ≤ 1099511627776) :
    Calls Try.prog 5 #[.slice s.p s.n s.c] w fun e w' => e = .returned (.bool (heavy13 (es.map EntV.e))) ∧ Below w.heap.size w w' := by
  have hnn : Hid (es.length = s.n) := hE.n
  have hcc := hE.c
  have HE : Hid (HasE w s es) := hE
  obtain ⟨r, HR⟩ : ∃ r, Hid (heavy13 (es.map EntV.e) = r) := ⟨_, rfl⟩
  rw [HR.out]
  clear hE
  go_enter Try.func5, Try.ntmps5
  go_wp2
  go_loopw [3, 5, 8] (fun s3 s5 s8 wr => ∃ (j n : Nat), s3 = .int .i64 (n : Nat) ∧ s8 = .int .i64 (j : Nat) ∧ j ≤ s.n ∧ n ≤ 200 ∧ Hid (sum13 (es.map EntV.e) = n + sum13 ((es.drop j).map EntV.e)) ∧ Below w.heap.size w wr) (fun _ _ s8 _ => s.n - (intOf s8).toNat)
  case atStart => exact ⟨0, 0, rfl, rfl, Nat.zero_le _, Nat.zero_le _, (Nat.zero_add _).symm, Below.refl _ _⟩
  case round =>
    obtain ⟨j, n, rfl, rfl, hj, hn, HS, hb⟩ := hrel
    by_cases hjn : j < s.n
    · have hEr := HE.out.below hb
      obtain ⟨g, o, hp, hg, hld⟩ := hEr.ld hjn
      have hej : es.getD j noEV ∈ es := getD_memE (by rw [hnn.out]; exact hjn)
      have hFe := hEr.all _ hej
      have HS2 : Hid (sum13 (es.map EntV.e) = n + weightE (es.getD j noEV).e + sum13 ((es.drop (j + 1)).map EntV.e)) := by
        have hjl : j < es.length := by rw [hnn.out]; exact hjn
        rw [Hid, HS.out, List.drop_eq_getElem_cons hjl, List.map_cons, List.getD_eq_getElem?_getD, List.getElem?_eq_getElem hjl, sum13, Option.getD_some]
        omega
      have hwl := weight_lt13 hFe
      clear hEr HS hej
      generalize es.getD j noEV = e at *
      rw [hp] at *
      have hbE := heap_alloc_new wr (.cells #[.int .i64 0, .int .i64 0, .int .i64 0, .int .i64 0, .int .i64 0, .int .i64 0, .string ⟨#[]⟩, .string ⟨#[]⟩, .string ⟨#[]⟩, .string ⟨#[]⟩, .int .i64 0, .slice none 0 0, .slice none 0 0] 51)
      have hth := there_box hbE 0 13 (Nat.le_refl _)
      have hst := stE_arr 0 e hth
      have hbE2 := setE_box e hbE rfl
      have hB2 : Below wr.heap.size wr ((wr.alloc (.cells #[.int .i64 0, .int .i64 0, .int .i64 0, .int .i64 0, .int .i64 0, .int .i64 0, .string ⟨#[]⟩, .string ⟨#[]⟩, .string ⟨#[]⟩, .string ⟨#[]⟩, .int .i64 0, .slice none 0 0, .slice none 0 0] 51)).setCells wr.heap.size 0 e.arr.toList) := setCells_below (Nat.le_refl _) _ _ ((Below.refl _ _).alloc (Nat.le_refl _) _)
      have hld2 := ldE_box _ _ _ _ _ hbE2 rfl
      have kw := weight_any e _ (hFe.below hB2)
      have HB2 : Hid _ := hB2
      have hl2 := box_lt hbE2
      clear hbE hbE2 hB2 hFe
      generalize hwe : weightE e.e = we at *
      clear hwe
      go_wp2_with fail
      generalize (wr.alloc (.cells #[.int .i64 0, .int .i64 0, .int .i64 0, .int .i64 0, .int .i64 0, .int .i64 0, .string ⟨#[]⟩, .string ⟨#[]⟩, .string ⟨#[]⟩, .string ⟨#[]⟩, .int .i64 0, .slice none 0 0, .slice none 0 0] 51)).setCells wr.heap.size 0 e.arr.toList = W2 at *
      clear hld hth hst hld2
      refine kw.mono ?_
      rintro _ w3 ⟨rfl, hb3⟩
      have HBf : Hid (Below w.heap.size w w3) := hb.trans ((HB2.out.trans (hb3.mono HB2.out.size)).mono hb.size)
      have hwr : IntKind.i64.wrap ((n : Int) + (we : Int)) = ((n + we : Nat) : Int) := by rw [IntKind.wrap_i64]; omega
      clear kw HB2 hb3
      by_cases h2 : 200 < n + we
      · have HF : Hid (r = true) := by
          rw [Hid, ← HR.out]
          exact decide_eq_true (by rw [HS2.out]; omega)
        have h2' : (200 : Int) < (n : Int) + (we : Int) := by omega
        go_wp2
        go_ret
        exact ⟨by rw [HF.out]; rfl, HBf.out⟩
      · have h2' : ¬ (200 : Int) < (n : Int) + (we : Int) := by omega
        go_wp2
        go_roundw
        case rel => exact ⟨j + 1, n + we, by go_num, by go_num, by omega, by omega, HS2, HBf.out⟩
        case measure => simp only [intOf]; omega
    · obtain rfl : j = s.n := by omega
      have HF : Hid (r = false) := by
        rw [Hid, ← HR.out]
        refine decide_eq_false ?_
        rw [HS.out, ← hnn.out, List.drop_length]
        show ¬ 200 < n + 0
        omega
      go_wp2
      go_ret
      exact ⟨by rw [HF.out]; rfl, hb⟩
structure BegV where
  i : Int
  t : Int
  w : Sl10
  es : List EntV
def BegV.arr (x : BegV) : Array Value := #[.int .i64 x.i, .int .i64 x.t, .slice x.w.p x.w.n x.w.c]
structure FitsB13 (W : World) (x : BegV) : Prop where
  i : inI x.i
  t : inI x.t
  e : HasE W x.w x.es
  l : x.w.n ≤ 837723144948
theorem FitsB13.below {W W' : World} {x : BegV} (h : FitsB13 W x) (hb : Below W.heap.size W W') : FitsB13 W' x := ⟨h.i, h.t, h.e.below hb, h.l⟩

end Go.Proofs.Ytephoegcpjdglaa

namespace Go.Proofs.Ytephoegcpjdglaa
open Go.RowKit Go.Shelf
structure ActV13 where
  k : Int
  n : Int
  m : Int
  w : Sl10
  es : List EntV
def noAV13 : ActV13 := ⟨0, 0, 0, nilS10, []⟩
def ActV13.arr (a : ActV13) : Array Value := #[.int .i64 a.k, .int .i64 a.n, .int .i64 a.m, .slice a.w.p a.w.n a.w.c]
structure FitsA13 (W : World) (a : ActV13) : Prop where
  k : inI a.k
  n : inI a.n
  m : inI a.m
  e : HasE W a.w a.es
  l : a.w.n ≤ 837723144948
theorem FitsA13.below {W W' : World} {a : ActV13} (h : FitsA13 W a) (hb : Below W.heap.size W W') : FitsA13 W' a := ⟨h.k, h.n, h.m, h.e.below hb, h.l⟩
structure HasA13 (W : World) (s : Sl10) (l : List ActV13) : Prop where
  n : l.length = s.n
  c : s.n ≤ s.c
  nl : s.p = none → s.c = 0
  at' : 0 < s.n → ∃ b o, s.p = some ⟨b, o, none⟩ ∧ b < W.heap.size ∧ ∀ i, i < s.n → ∀ j, j < 4 → W.cell? ⟨b, o + i * 4 + j, none⟩ = (l.getD i noAV13).arr[j]?
  all : ∀ x ∈ l, FitsA13 W x
theorem HasA13.below {W W' : World} {s : Sl10} {l : List ActV13} (h : HasA13 W s l) (hb : Below W.heap.size W W') : HasA13 W' s l :=
  ⟨h.n, h.c, h.nl, fun h0 => by
    obtain ⟨b, o, hp, hlt, hc⟩ := h.at' h0
    exact ⟨b, o, hp, Nat.lt_of_lt_of_le hlt hb.size, fun i hi j hj => (hb.cell (p := ⟨b, o + i * 4 + j, none⟩) hlt).trans (hc i hi j hj)⟩, fun x hx => (h.all x hx).below hb⟩
end Go.Proofs.Ytephoegcpjdglaa
