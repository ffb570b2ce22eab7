import Derived.Test.YthlelcmifolnfaaGreatDoorKi4To
namespace Go.Proofs.YthlelcmifolnfaaGreatDoor
open Go.RowKit Go.Shelf Go.Maps
attribute [local go_sem ↓] ldS_exec stS_exec ldS_execI stS_execI ldS_run ldS_box oc_int oc_bool oc_string oc_slice oc_pointer
theorem ret_ctt12 {P : Program} {fn : Func} {p u v : Tmp} {ty : TypeId} (h : fn.results = #[.cell p ty, .tmp u, .tmp v]) (tmps : Array Value) (w : World) (g : Nat) (t : TypeId) (cs : Array Value) (fr : Nat × Nat) (d : TypeDesc)
    (hp : tmps.getD p undef = .pointer (some ⟨g, 0, none⟩)) (hg : w.heap[g]? = some (.cells cs t fr))
    (hu : P.underlying ty = some d) (hd : (match d with | .struct _ | .array _ _ => true | _ => false) = true) (hi : (P.info? ty).map (·.size) = some cs.size) :
    (results fn tmps).run P w = .ok (.tuple #[.agg cs, tmps.getD u undef, tmps.getD v undef]) w := by
  have e : (results fn tmps).run P w = ((asAddr (tmps.getD p undef)).run P w).andThen fun a w₁ => ((loadVar ty a).run P w₁).andThen fun x w₂ => .ok (.tuple #[x, tmps.getD u undef, tmps.getD v undef]) w₂ := by
    simp only [results, h]
    simp [Sem.run_bind, Result.andThen]
  rw [e, hp]
  simp [asAddr, run_loadVar_row w g t ty cs fr d hg hu hd hi, Result.andThen]
def lod12 (M : DM) : Snap10 × Bool × Int := if M.off = true then (noS10, false, 9) else match load12 M with | some s => (s, true, 0) | none => (noS10, false, 0)

set_option maxRecDepth 100000 in
set_option maxHeartbeats 1000000 in
theorem loadS_any {w0 w : World} {d : Nat} {S : Nat → Prop} {M : DM} (h : Disk8 w0 w d S M) (h0 : Gl11 w0) (hI : M.Inv) :
    Calls Tryz.prog 35 #[.pointer (some ⟨d, 0, none⟩)] w fun e w' => ∃ Y : SnapV, e = .returned (.tuple #[.agg Y.arr, .bool (lod12 M).2.1, .int .i64 (lod12 M).2.2]) ∧ Y.s = (lod12 M).1 ∧ OwnsS w' w.heap.size Y ∧ Below w.heap.size w w' := by
  obtain ⟨w1, hw1⟩ : ∃ w1, w.alloc (.cells #[.int .i64 0, .int .i64 0, .slice none 0 0, .slice none 0 0, .slice none 0 0] 27) = w1 := ⟨_, rfl⟩
  have hb1 : Below w.heap.size w w1 := by rw [← hw1]; exact (Below.refl _ w).alloc (Nat.le_refl _) _
  have hz1 : w1.heap.size = w.heap.size + 1 := by rw [← hw1]; simp
  have r1 : w1.heap[w.heap.size]? = some (.cells zeroS 27 (0, 0)) := by rw [← hw1]; exact heap_alloc_new w _
  have hD1 := DiskT.of (h.below hb1)
  have kr := readyS_any (h.below hb1).at8 hI (names_empty12 hI)
  unfold readyS at kr
  -- how a call ends that tells nothing
  have none_end : ∀ (V : World), Below w1.heap.size w1 V → (stS (.pointer (some ⟨w.heap.size, 0, none⟩)) (.agg #[.int .i64 0, .int .i64 0, .slice none 0 0, .slice none 0 0, .slice none 0 0])).run Tryz.prog V = .ok () (V.setCells w.heap.size 0 noSV.arr.toList) ∧ w.heap.size < V.heap.size ∧ (V.setCells w.heap.size 0 noSV.arr.toList).heap[w.heap.size]? = some (.cells noSV.arr 27 (0, 0)) ∧ OwnsS (V.setCells w.heap.size 0 noSV.arr.toList) w.heap.size noSV ∧ Below w.heap.size w (V.setCells w.heap.size 0 noSV.arr.toList) := fun V hb => by
    have rV := box_below r1 hb
    exact ⟨stS_arr noSV (there_box rV 0 5 (Nat.le_refl _)), box_lt rV, setS_box noSV rV rfl, OwnsS.nil _ _, setCells_below (Nat.le_refl _) _ _ (hb1.trans (hb.mono (by omega)))⟩
  have HNE : Hid _ := none_end
  cases hoff : M.off with
  | true =>
    rw [hoff, if_pos rfl] at kr
    have HE : Hid (lod12 M = (noS10, false, 9)) := if_pos hoff
    clear h h0 hI none_end hD1 hb1
    go_enter Tryz.func35, Tryz.ntmps35
    go_upto_region 3 with (go_at_call 64; refine kr.mono ?_; rintro _ w3 ⟨rfl, hb3⟩)
    obtain ⟨e1, e2, e3, e4, e5⟩ := HNE.out w3 hb3
    have E3 : Hid _ := e3
    have E45 : Hid _ := And.intro e4 e5
    clear kr hb3 r1 e3 e4 e5
    go_wp2
    refine bodyPost_ret (ret_ctt12 rfl _ _ w.heap.size _ _ _ _ rfl E3.out Tryz.underlying27 rfl (by kernel_rfl)) rfl ⟨noSV, ?_, ?_, E45.out.1, E45.out.2⟩
    · rw [HE.out]; rfl
    · rw [HE.out]; rfl
  | false =>
    rw [hoff, if_neg (by decide)] at kr
    have HE : Hid (lod12 M = match load12 M with | some s => (s, true, 0) | none => (noS10, false, 0)) := if_neg (by rw [hoff]; decide)
    have HLd : Hid (load12 M = find12 M (files12 M.listT).reverse) := rfl
    have HIn : Hid (∀ a ∈ (files12 M.listT).reverse, 1 ≤ a ∧ a ≤ 999999999) := fun a ha => by
      have := files12_mem (List.mem_reverse.1 ha)
      exact ⟨this.1, this.2.1⟩
    have hfl : (files12 M.listT).reverse.length ≤ 16777216 := by
      have := files12_len M.listT
      have := hD1.count hI
      rw [List.length_reverse]; omega
    have KF : Hid (∀ V, Below w1.heap.size w1 V → Calls Tryz.prog 96 #[.pointer (some ⟨d, 0, none⟩)] V fun e w' => (∃ p n c, e = .returned (.slice p n c) ∧ OwnsI w' V.heap.size (.slice p n c) (files12 M.listT).reverse) ∧ Below V.heap.size V w') := fun V hb => falling_any (hD1.below hb) h0 hI
    have HG : Hid (∀ V, Below w1.heap.size w1 V → Gl11 V) := fun V hb => h0.below (hD1.below hb).bel (Nat.le_refl _)
    have KRd : Hid (∀ V, Below w1.heap.size w1 V → ∀ x : ByteArray, x.size ≤ maxLen → Calls Tryz.prog 97 #[.pointer (some ⟨d, 0, none⟩), .string x] V fun e w' => (∃ v, e = .returned (.tuple #[v, .int .i64 (M.readE x : Nat)]) ∧ Owns w' V.heap.size 5 v (M.readB x)) ∧ Below V.heap.size V w') := fun V hb x hx => (hD1.below hb).read hI hx
    have HLim : Hid (∀ x, (M.readB x).length ≤ 1073741824) := fun x => by
      unfold DM.readB
      split
      · exact Nat.zero_le _
      · split
        · exact Nat.zero_le _
        · exact Nat.le_of_lt (hI.size x)
    have HBB : Hid (∀ x, IsB (M.readB x)) := fun x z hz => by
      unfold DM.readB at hz
      split at hz
      · cases hz
      · split at hz
        · cases hz
        · have := hI.isB x z hz
          omega
    have HR1 : Hid (w1.heap[w.heap.size]? = some (.cells zeroS 27 (0, 0))) := r1
    generalize (files12 M.listT).reverse = sg at *
    clear h h0 hI none_end hD1 r1
    go_enter Tryz.func35, Tryz.ntmps35
    go_wp2_with fail
    refine kr.mono ?_
    rintro _ w3 ⟨rfl, hb3⟩
    have kf := KF.out w3 hb3
    clear kr KF
    go_wp2_with fail
    refine kf.mono ?_
    rintro _ w4 ⟨⟨p, m, q, rfl, ho4⟩, hb4⟩
    obtain ⟨hm, hmq, hat⟩ := ho4.at12
    subst hm
    have HB4 : Hid (Below w1.heap.size w1 w4) := hb3.trans (hb4.mono hb3.size)
    have HAt : Hid (∀ j, j < sg.length → ∃ g, p = some ⟨g, 0, none⟩ ∧ w3.heap.size ≤ g ∧ g < w4.heap.size ∧ w4.cell? ⟨g, j, none⟩ = some (.int .i64 (sg.getD j 0))) := hat
    clear kf ho4 hat hb3 hb4
    go_wp2
    go_loopw [21] (fun s21 wr => ∃ j : Nat, s21 = .int .i64 (j : Nat) ∧ j ≤ sg.length ∧ Hid (find12 M (sg.take j) = none) ∧ Hid (Below w4.heap.size w4 wr)) (fun s21 _ => sg.length - (intOf s21).toNat)
    case atStart => exact ⟨0, rfl, Nat.zero_le _, rfl, Below.refl _ _⟩
    case round =>
      obtain ⟨j, rfl, hj, HZ, HBr⟩ := hrel
      have HB1r : Hid (Below w1.heap.size w1 wr) := HB4.out.trans (HBr.out.mono HB4.out.size)
      by_cases hjn : j < sg.length
      · obtain ⟨g, hp, hg1, hg2, hcl⟩ := HAt.out j hjn
        have hcr : wr.cell? ⟨g, j, none⟩ = some (.int .i64 (sg.getD j 0)) := (HBr.out.cell (p := ⟨g, j, none⟩) hg2).trans hcl
        have hgr : g < wr.heap.size := Nat.lt_of_lt_of_le hg2 HBr.out.size
        have hmem : sg.getD j 0 ∈ sg := by
          rw [List.getD_eq_getElem?_getD, List.getElem?_eq_getElem hjn]
          exact List.getElem_mem _
        obtain ⟨ha1, ha2⟩ := HIn.out _ hmem
        have e : sg = sg.take j ++ sg.getD j 0 :: sg.drop (j + 1) := by
          conv => lhs; rw [← List.take_append_drop j sg]
          rw [List.drop_eq_getElem_cons hjn, List.getD_eq_getElem?_getD, List.getElem?_eq_getElem hjn]
          rfl
        have HF1 : Hid ((join12 (M.readB (nameB12 (sg.getD j 0)))).2 = 0 ∧ (join12 (M.readB (nameB12 (sg.getD j 0)))).1.i = sg.getD j 0 → load12 M = some (join12 (M.readB (nameB12 (sg.getD j 0)))).1) := fun hc => by
          rw [HLd.out]
          conv => lhs; rw [e]
          rw [find12_app M _ _ HZ.out, find12_cons, if_pos hc]
        have HF2 : Hid (¬ ((join12 (M.readB (nameB12 (sg.getD j 0)))).2 = 0 ∧ (join12 (M.readB (nameB12 (sg.getD j 0)))).1.i = sg.getD j 0) → find12 M (sg.take (j + 1)) = none) := fun hc => by
          have e2 : sg.take (j + 1) = sg.take j ++ [sg.getD j 0] := by
            rw [List.take_add_one, List.getElem?_eq_getElem hjn, List.getD_eq_getElem?_getD, List.getElem?_eq_getElem hjn]
            rfl
          rw [e2, find12_app M _ _ HZ.out, find12_cons, if_neg hc]
          rfl
        have hsn := nameB_size12 (sg.getD j 0)
        have kn := nameS_any (sg.getD j 0) ⟨by omega, by omega⟩ wr (HG.out wr HB1r.out)
        have KR2 : Hid (∀ V, Below wr.heap.size wr V → Calls Tryz.prog 97 #[.pointer (some ⟨d, 0, none⟩), .string (nameB12 (sg.getD j 0))] V fun e w' => (∃ v, e = .returned (.tuple #[v, .int .i64 (M.readE (nameB12 (sg.getD j 0)) : Nat)]) ∧ Owns w' V.heap.size 5 v (M.readB (nameB12 (sg.getD j 0)))) ∧ Below V.heap.size V w') := fun V hb => KRd.out V (HB1r.out.trans (hb.mono HB1r.out.size)) _ (by unfold maxLen; omega)
        have hlim := HLim.out (nameB12 (sg.getD j 0))
        have hbb := HBB.out (nameB12 (sg.getD j 0))
        have KJ : Hid (∀ V (sl : Sl10), Below wr.heap.size wr V → Has V (.slice sl.p sl.n sl.c) (M.readB (nameB12 (sg.getD j 0))) → Calls Tryz.prog 10 #[.slice sl.p sl.n sl.c] V fun e w' => ∃ Y : SnapV, e = .returned (.tuple #[.agg Y.arr, .int .i64 (join12 (M.readB (nameB12 (sg.getD j 0)))).2]) ∧ Y.s = (join12 (M.readB (nameB12 (sg.getD j 0)))).1 ∧ OwnsS w' V.heap.size Y ∧ Below V.heap.size V w') := fun V sl hb hv => joinS_any sl _ V (HG.out V (HB1r.out.trans (hb.mono HB1r.out.size))).tab hv hbb hlim
        rw [hp] at *
        clear hmem hcl HAt HIn hsn e hlim hbb HLim HBB KRd HG
        generalize M.readE (nameB12 (sg.getD j 0)) = rre at *
        generalize join12 (M.readB (nameB12 (sg.getD j 0))) = JJ at *
        obtain ⟨js, je⟩ := JJ
        dsimp only at HF1 HF2 KJ
        generalize M.readB (nameB12 (sg.getD j 0)) = rb at *
        generalize nameB12 (sg.getD j 0) = nm at *
        generalize sg.getD j 0 = a at *
        go_wp2_with fail
        refine kn.mono ?_
        rintro _ y1 ⟨rfl, hy1⟩
        have krd := KR2.out y1 hy1
        clear kn KR2 hcr
        go_wp2_with fail
        refine krd.mono ?_
        rintro _ y2 ⟨⟨v2, rfl, ho2⟩, hy2⟩
        obtain ⟨sl, rfl, -⟩ := ho2.slice12
        have hy02 := hy1.trans (hy2.mono hy1.size)
        have kj := KJ.out y2 sl hy02 ho2.has
        clear krd KJ ho2 hy1 hy2
        go_wp2_with fail
        refine kj.mono ?_
        rintro _ y3 ⟨Y, rfl, hYs, hYo, hy3⟩
        have hy03 := hy02.trans (hy3.mono hy02.size)
        have hz3 := hy03.size
        have hbx := heap_alloc_new y3 (.cells #[.int .i64 0, .int .i64 0, .slice none 0 0, .slice none 0 0, .slice none 0 0] 27)
        have hth := there_box hbx 0 5 (Nat.le_refl _)
        have hst := stS_arr Y hth
        have hb6 : Below y3.heap.size y3 ((y3.alloc (.cells #[.int .i64 0, .int .i64 0, .slice none 0 0, .slice none 0 0, .slice none 0 0] 27)).setCells y3.heap.size 0 Y.arr.toList) := setCells_below (Nat.le_refl _) _ _ ((Below.refl _ _).alloc (Nat.le_refl _) _)
        have hy6 : SnapAt ((y3.alloc (.cells #[.int .i64 0, .int .i64 0, .slice none 0 0, .slice none 0 0, .slice none 0 0] 27)).setCells y3.heap.size 0 Y.arr.toList) y3.heap.size Y := setS_box Y hbx rfl
        obtain ⟨cy, -⟩ := SnapAt.cells hy6
        have ly := box_lt hy6
        have HB6 : Hid (Below wr.heap.size wr ((y3.alloc (.cells #[.int .i64 0, .int .i64 0, .slice none 0 0, .slice none 0 0, .slice none 0 0] 27)).setCells y3.heap.size 0 Y.arr.toList)) := hy03.trans (hb6.mono hz3)
        have HB16 : Hid (Below w1.heap.size w1 ((y3.alloc (.cells #[.int .i64 0, .int .i64 0, .slice none 0 0, .slice none 0 0, .slice none 0 0] 27)).setCells y3.heap.size 0 Y.arr.toList)) := HB1r.out.trans (HB6.out.mono HB1r.out.size)
        have O6 : OwnsS ((y3.alloc (.cells #[.int .i64 0, .int .i64 0, .slice none 0 0, .slice none 0 0, .slice none 0 0] 27)).setCells y3.heap.size 0 Y.arr.toList) y2.heap.size Y := hYo.below hb6
        have hz2 := hy02.size
        have hzr := HB1r.out.size
        have HYs : Hid (Y.s = js) := hYs
        have HYi : Hid (js.i = Y.i) := by rw [Hid, ← HYs.out]; rfl
        rw [HYi.out] at HF1 HF2
        have r6 := box_below HR1.out HB16.out
        clear kj hYo hYs hy02 hy3 hy03 hbx hb6 hth
        by_cases hc : je = 0 ∧ Y.i = a
        · obtain ⟨rfl, hya⟩ := hc
          have hL := HF1.out ⟨rfl, hya⟩
          rw [hL] at HE
          dsimp only at HE
          have hya' : (Y.i == a) = true := by simpa using hya
          have hld := ldS_box _ _ _ _ _ hy6 rfl
          have hthR := there_box r6 0 5 (Nat.le_refl _)
          have hstR := stS_arr Y hthR
          have lr6 := box_lt r6
          have R8 : Hid ((((y3.alloc (.cells #[.int .i64 0, .int .i64 0, .slice none 0 0, .slice none 0 0, .slice none 0 0] 27)).setCells y3.heap.size 0 Y.arr.toList).setCells w.heap.size 0 Y.arr.toList).heap[w.heap.size]? = some (.cells Y.arr 27 (0, 0))) := setS_box Y r6 rfl
          have O8 : Hid (OwnsS (((y3.alloc (.cells #[.int .i64 0, .int .i64 0, .slice none 0 0, .slice none 0 0, .slice none 0 0] 27)).setCells y3.heap.size 0 Y.arr.toList).setCells w.heap.size 0 Y.arr.toList) y2.heap.size Y) := O6.kept (setCells_grown w.heap.size Y.arr.toList 0 _) (by omega)
          have HB9 : Hid (Below w.heap.size w (((y3.alloc (.cells #[.int .i64 0, .int .i64 0, .slice none 0 0, .slice none 0 0, .slice none 0 0] 27)).setCells y3.heap.size 0 Y.arr.toList).setCells w.heap.size 0 Y.arr.toList)) := setCells_below (Nat.le_refl _) _ _ (hb1.trans (HB16.out.mono (by omega)))
          clear hy6 O6 hthR r6 hL HF1 HF2 hya
          go_wp2
          refine bodyPost_ret (ret_ctt12 rfl _ _ w.heap.size _ _ _ _ rfl R8.out Tryz.underlying27 rfl (by kernel_rfl)) rfl ⟨Y, ?_, ?_, O8.out.mono (by omega), HB9.out⟩
          · rw [HE.out]; rfl
          · rw [HE.out]; exact HYs.out
        · have HZ2 : Hid (find12 M (sg.take (j + 1)) = none) := HF2.out hc
          have HB7 : Hid (Below w4.heap.size w4 ((y3.alloc (.cells #[.int .i64 0, .int .i64 0, .slice none 0 0, .slice none 0 0, .slice none 0 0] 27)).setCells y3.heap.size 0 Y.arr.toList)) := HBr.out.trans (HB6.out.mono HBr.out.size)
          by_cases hje : je = 0
          · subst hje
            have hya' : (Y.i == a) = false := by
              rw [beq_eq_false_iff_ne]
              exact fun h => hc ⟨rfl, h⟩
            clear hy6 O6 r6 HF1 HF2 hc
            go_wp2
            go_roundw
            case rel => exact ⟨j + 1, by go_num, by omega, HZ2, HB7⟩
            case measure => simp only [intOf]; omega
          · have hje' : (je == 0) = false := by rw [beq_eq_false_iff_ne]; exact hje
            clear hy6 O6 r6 HF1 HF2 hc hje
            go_wp2
            go_roundw
            case rel => exact ⟨j + 1, by go_num, by omega, HZ2, HB7⟩
            case measure => simp only [intOf]; omega
      · obtain rfl : j = sg.length := by omega
        have HN : Hid (load12 M = none) := by
          have := HZ.out
          rw [List.take_length] at this
          rw [Hid, HLd.out]; exact this
        rw [HN.out] at HE
        obtain ⟨e1, e2, e3, e4, e5⟩ := HNE.out wr HB1r.out
        have E3 : Hid _ := e3
        have E45 : Hid _ := And.intro e4 e5
        clear e3 e4 e5 HAt HIn HLim HBB KRd HG HZ HBr
        go_wp2
        refine bodyPost_ret (ret_ctt12 rfl _ _ w.heap.size _ _ _ _ rfl E3.out Tryz.underlying27 rfl (by kernel_rfl)) rfl ⟨noSV, ?_, ?_, E45.out.1, E45.out.2⟩
        · rw [HE.out]; rfl
        · rw [HE.out]; rfl
end Go.Proofs.YthlelcmifolnfaaGreatDoor
