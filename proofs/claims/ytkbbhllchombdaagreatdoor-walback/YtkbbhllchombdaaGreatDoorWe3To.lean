import Derived.Test.YtkbbhllchombdaaGreatDoorWd8To
namespace Go.Proofs.YtkbbhllchombdaaGreatDoor
open Go.RowKit Go.Shelf Go.Maps
attribute [local go_sem ↓] ldE_exec stE_exec ldE_execI stE_execI ldE_run ldE_box stE_box ldC_exec stC_exec ldC_execI stC_execI ldC_run ldW_exec stW_exec ldW_execI stW_execI ldW_box stW_box ldR_exec stR_exec ldR_execI stR_execI ldT_exec stT_exec ldT_execI stT_execI ldT_box ldU_exec stU_exec ldU_execI stU_execI ldH_exec stH_exec ldH_execI stH_execI ldH_run ldH_box stH_box oc_int oc_bool oc_string oc_slice oc_pointer
attribute [local go_sem ↓] bsE_exec bsE_execI bsE_run bsW_exec bsW_execI bsW_run bdE_exec bdE_execI bdE_run bdH_exec bdH_execI bdH_run bdB_exec bdB_execI bdB_run
def bytesP (base : Int) : Int → List Rec11 → Option (List Int)
  | _, [] => some []
  | last, r :: l => if goodR11 r = true ∧ takes11 base last r = true then (bytesP base (if r.k = 1 then r.e.i else last) l).map fun bs => recB11 r ++ bs else none
theorem bytesP_cons (base last : Int) (r : Rec11) (l : List Rec11) : bytesP base last (r :: l) = if goodR11 r = true ∧ takes11 base last r = true then (bytesP base (if r.k = 1 then r.e.i else last) l).map fun bs => recB11 r ++ bs else none := rfl
theorem recB_small (r : Rec11) : (recB11 r).length ≤ 1100000 := by
  unfold recB11
  split
  · rename_i h
    rw [Bool.and_eq_true, decide_eq_true_eq] at h
    rw [frameB_length]
    omega
  · exact Nat.zero_le _
theorem recB_isB11 (r : Rec11) : IsB (recB11 r) := by
  unfold recB11
  split
  · exact frameB_isB (IsB.append (zigB_isB _) (partR_isB _))
  · exact IsB.nil
theorem setW_box {w : World} {b : Nat} {t : TypeId} {a : Array Value} (x : RecV) (h : w.heap[b]? = some (.cells a t (0, 0))) (hs : a.size = 19) : (w.setCells b 0 x.arr.toList).heap[b]? = some (.cells x.arr t (0, 0)) :=
  setCells_box h 0 _ _ (by rw [rarr_len]; omega) (by rw [rarr_len]; simp [List.drop_of_length_le, hs])
theorem LogS.cell2 {w0 wb w : World} {lb d : Nat} {S G : Nat → Prop} {M : DM} {L : LogV} (h : LogS w0 wb w lb d S G M L) : w.cell? ⟨lb, 2, none⟩ = some (.int .i64 L.x.i) := by
  obtain ⟨S', h1, _⟩ := h.ex
  exact h1.box.cells.1
def BytesP (B : Nat) (w : World) (o : Option (List Int)) (e : Ending) (w' : World) : Prop :=
  ∃ (r : Sl10) (ok : Bool), e = .returned (.tuple #[.slice r.p r.n r.c, .bool ok]) ∧ (o = none → ok = false) ∧ (∀ bs, o = some bs → ok = true ∧ Owns w' B 5 (.slice r.p r.n r.c) bs) ∧ Below w.heap.size w w'

set_option maxRecDepth 100000 in
set_option maxHeartbeats 1000000 in
theorem bytesW_any {w0 wb w : World} {lb d : Nat} {S G : Nat → Prop} {M : DM} {L : LogV} (h : LogS w0 wb w lb d S G M L) (h0 : Gl11 w0) (hx : HasE w L.x.w L.x.es) (hxl : L.x.es.length ≤ 1000000000) (hxi : inI L.x.i) (s : Sl10) (l : List RecV) (hW : HasW w s l) (hf : ∀ x ∈ l, FewF x.e.f.f ∧ FewC x.e.c) (hg : ∀ x ∈ l, goodR11 x.r = true) (hl : l.length ≤ 99999) :
    Calls Tryz.prog 151 #[.pointer (some ⟨lb, 0, none⟩), .slice s.p s.n s.c] w (BytesP w.heap.size w (bytesP L.x.i (last11 L.x.s) (l.map RecV.r))) := by
  have hlb := h.lt
  have kl : Calls Tryz.prog 162 #[.pointer (some ⟨lb, 2, none⟩)] w fun e w' => e = .returned (.int .i64 (last11 L.x.s)) ∧ Below w.heap.size w w' := by
    obtain ⟨S', h1, _⟩ := h.ex
    exact lastP_any w lb 145 (logPre d L) (logPost L) L.x h1.box hx (by omega)
  have hnn : Hid (l.length = s.n) := hW.n
  have hn : s.n ≤ 99999 := by rw [← hnn.out]; exact hl
  have hcc := hW.c
  have HW : Hid (HasW w s l) := hW
  have HF : Hid (∀ x ∈ l, FewF x.e.f.f ∧ FewC x.e.c) := hf
  have HGd : Hid (∀ x ∈ l, goodR11 x.r = true) := hg
  have HL : Hid (LogS w0 wb w lb d S G M L) := h
  have HG0 : Hid (Gl11 w0) := h0
  have HXi : Hid (inI L.x.i) := hxi
  generalize last11 L.x.s = la at *
  generalize hO : bytesP L.x.i la (l.map RecV.r) = O at *
  have HOO : Hid (bytesP L.x.i la (l.map RecV.r) = O) := hO
  clear h h0 hx hxl hxi hW hf hg hl hO
  go_enter Tryz.func151, Tryz.ntmps151
  go_wp2_with fail
  refine kl.mono ?_
  rintro _ w1 ⟨rfl, hb1⟩
  clear kl
  go_wp2
  go_loopw [6, 7, 16] (fun s6 s7 s16 wr => ∃ (j : Nat) (r : Sl10) (bs : List Int) (z : Int), s6 = .slice r.p r.n r.c ∧ s7 = .int .i64 z ∧ s16 = .int .i64 (j : Nat) ∧ j ≤ s.n ∧ Hid (Owns wr w1.heap.size 5 (.slice r.p r.n r.c) bs) ∧ Hid (O = (bytesP L.x.i z ((l.drop j).map RecV.r)).map fun ys => bs ++ ys) ∧ Hid (bs.length ≤ j * 1100000) ∧ Below w1.heap.size w1 wr) (fun _ _ s16 _ => s.n - (intOf s16).toNat)
  case atStart => exact ⟨0, nilS10, [], la, rfl, rfl, rfl, Nat.zero_le _, Owns.nil _ _ _, (by rw [Hid, List.drop_zero, HOO.out]; cases O <;> simp), Nat.zero_le _, Below.refl _ _⟩
  case round =>
    obtain ⟨j, r, bs, z, rfl, rfl, rfl, hj, HO, HM, HLn, hb⟩ := hrel
    have hsz := hb.size
    have hz1 := hb1.size
    have HBr : Hid (Below w.heap.size w wr) := hb1.trans (hb.mono hb1.size)
    by_cases hjn : j < s.n
    · have hEr := HW.out.below HBr.out
      obtain ⟨g, o, hp, hg, hld⟩ := hEr.ld hjn
      have hjl : j < l.length := by rw [hnn.out]; exact hjn
      have hej : l.getD j noRV ∈ l := getD_mem11 hjl
      have hFe := hEr.all _ hej
      have hfe := HF.out _ hej
      have hge := HGd.out _ hej
      have HM2 : Hid (O = (if takes11 L.x.i z (l.getD j noRV).r = true then (bytesP L.x.i (if (l.getD j noRV).k = 1 then (l.getD j noRV).e.i else z) ((l.drop (j + 1)).map RecV.r)).map fun ys => (bs ++ recB11 (l.getD j noRV).r) ++ ys else none)) := by
        have e1 : l.drop j = l.getD j noRV :: l.drop (j + 1) := by
          rw [List.drop_eq_getElem_cons hjl, List.getD_eq_getElem?_getD, List.getElem?_eq_getElem hjl]
          rfl
        rw [Hid, HM.out, e1, List.map_cons]
        rw [bytesP_cons]
        by_cases ht : takes11 L.x.i z (l.getD j noRV).r = true
        · rw [if_pos ⟨hge, ht⟩, if_pos ht, Option.map_map]
          show Option.map _ _ = Option.map _ _
          congr 1
          funext ys
          simp
        · rw [if_neg (fun h => ht h.2), if_neg ht]
          rfl
      clear hEr
      generalize l.getD j noRV = x at *
      rw [hp] at *
      have hbE := heap_alloc_new wr (.cells #[.int .i64 0, .int .i64 0, .int .i64 0, .int .i64 0, .int .i64 0, .int .i64 0, .int .i64 0, .string ⟨#[]⟩, .string ⟨#[]⟩, .string ⟨#[]⟩, .string ⟨#[]⟩, .int .i64 0, .slice none 0 0, .slice none 0 0, .int .i64 0, .int .i64 0, .int .i64 0, .int .i64 0, .int .i64 0] 32)
      have hth := there_box hbE 0 19 (Nat.le_refl _)
      have hst := stW_arr x hth
      have hbE2 := setW_box x hbE rfl
      have hB2 : Below wr.heap.size wr ((wr.alloc (.cells #[.int .i64 0, .int .i64 0, .int .i64 0, .int .i64 0, .int .i64 0, .int .i64 0, .int .i64 0, .string ⟨#[]⟩, .string ⟨#[]⟩, .string ⟨#[]⟩, .string ⟨#[]⟩, .int .i64 0, .slice none 0 0, .slice none 0 0, .int .i64 0, .int .i64 0, .int .i64 0, .int .i64 0, .int .i64 0] 32)).setCells wr.heap.size 0 x.arr.toList) := setCells_below (Nat.le_refl _) _ _ ((Below.refl _ _).alloc (Nat.le_refl _) _)
      have HBx : Hid (((wr.alloc (.cells #[.int .i64 0, .int .i64 0, .int .i64 0, .int .i64 0, .int .i64 0, .int .i64 0, .int .i64 0, .string ⟨#[]⟩, .string ⟨#[]⟩, .string ⟨#[]⟩, .string ⟨#[]⟩, .int .i64 0, .slice none 0 0, .slice none 0 0, .int .i64 0, .int .i64 0, .int .i64 0, .int .i64 0, .int .i64 0] 32)).setCells wr.heap.size 0 x.arr.toList).heap[wr.heap.size]? = some (.cells x.arr 32 (0, 0))) := hbE2
      have HB2 : Hid _ := hB2
      have HFe : Hid (FitsR wr x) := hFe
      clear hbE hbE2 hB2 hFe hej
      go_upto_region 6 with fail
      clear hld hth hst
      generalize (wr.alloc (.cells #[.int .i64 0, .int .i64 0, .int .i64 0, .int .i64 0, .int .i64 0, .int .i64 0, .int .i64 0, .string ⟨#[]⟩, .string ⟨#[]⟩, .string ⟨#[]⟩, .string ⟨#[]⟩, .int .i64 0, .slice none 0 0, .slice none 0 0, .int .i64 0, .int .i64 0, .int .i64 0, .int .i64 0, .int .i64 0] 32)).setCells wr.heap.size 0 x.arr.toList = W2 at *
      have HW2 : Hid (Below w.heap.size w W2) := HBr.out.trans (HB2.out.mono HBr.out.size)
      have KY : Hid (∀ A, Below W2.heap.size W2 A → (A.cell? ⟨lb, 2, none⟩ = some (.int .i64 L.x.i) ∧ (ldW (.pointer (some ⟨wr.heap.size, 0, none⟩))).run Tryz.prog A = .ok (.agg x.arr) A ∧ Below W2.heap.size W2 A)) := fun A h => ⟨(HL.out.below (HW2.out.trans (h.mono HW2.out.size))).cell2, ldW_box A _ _ _ _ (box_below HBx.out h) rfl, h⟩
      have KX : Hid (∀ A B, (A.cell? ⟨lb, 2, none⟩ = some (.int .i64 L.x.i) ∧ (ldW (.pointer (some ⟨wr.heap.size, 0, none⟩))).run Tryz.prog A = .ok (.agg x.arr) A ∧ Below W2.heap.size W2 A) → Below A.heap.size A B → (B.cell? ⟨lb, 2, none⟩ = some (.int .i64 L.x.i) ∧ (ldW (.pointer (some ⟨wr.heap.size, 0, none⟩))).run Tryz.prog B = .ok (.agg x.arr) B ∧ Below W2.heap.size W2 B)) := fun A B h hb => KY.out B (h.2.2.trans (hb.mono h.2.2.size))
      have KB : Hid (∀ A, (A.cell? ⟨lb, 2, none⟩ = some (.int .i64 L.x.i) ∧ (ldW (.pointer (some ⟨wr.heap.size, 0, none⟩))).run Tryz.prog A = .ok (.agg x.arr) A ∧ Below W2.heap.size W2 A) → Below W2.heap.size W2 A) := fun A h => h.2.2
      have KG : Hid (∀ A, Below W2.heap.size W2 A → Calls Tryz.prog 43 #[.agg x.arr] A fun e w' => e = .returned (.bool true) ∧ Below A.heap.size A w') := fun A h => by
        have := goodR_any A x (HFe.out.below (HB2.out.trans (h.mono HB2.out.size)))
        rwa [hge] at this
      have KT : Hid (∀ A, Calls Tryz.prog 161 #[.int .i64 L.x.i, .int .i64 z, .agg x.arr] A fun e w' => e = .returned (.bool (takes11 L.x.i z x.r)) ∧ Below A.heap.size A w') := fun A => takesP_any A x L.x.i z HXi.out HFe.out.e.i
      have KBy : Hid (∀ A, Below W2.heap.size W2 A → Calls Tryz.prog 17 #[.agg x.arr] A (Outs A (recB11 x.r))) := fun A h => bytesR_any A (((HL.out.below (HW2.out.trans (h.mono HW2.out.size))).gl11 HG0.out).tab) x (HFe.out.below (HB2.out.trans (h.mono HB2.out.size))) hfe.1 hfe.2
      have s0 := KY.out W2.drew (on_drew (Below.refl _ _))
      have hlr := recB_small x.r
      have hlb2 : lb < W2.heap.size := by have := HW2.out.size; omega
      have hlw2 : wr.heap.size < W2.heap.size := box_lt HBx.out
      have hKo : Hid (Owns W2 w1.heap.size 5 (.slice r.p r.n r.c) bs) := HO.out.below HB2.out (Nat.le_refl _)
      clear HO HM hge hfe
      generalize takes11 L.x.i z x.r = tk at *
      generalize recB11 x.r = rb at *
      go_region_held3 (fun w' => w'.cell? ⟨lb, 2, none⟩ = some (.int .i64 L.x.i) ∧ (ldW (.pointer (some ⟨wr.heap.size, 0, none⟩))).run Tryz.prog w' = .ok (.agg x.arr) w' ∧ Below W2.heap.size W2 w')
        (first | (with_reducible exact s0) | (with_reducible assumption) | (with_reducible exact KX.out _ _ (by assumption) (by assumption)))
        (first
          | (go_at_call 43; (with_reducible refine Calls.mono (KG.out _ (KB.out _ (by assumption))) ?_); rintro _ g1 ⟨rfl, hc1⟩)
          | (go_at_call 161; (with_reducible refine Calls.mono (KT.out _) ?_); rintro _ g2 ⟨rfl, hc2⟩; have hfin := KB.out _ (KX.out _ _ (by assumption) hc2)))
      have HF2 : Hid (Below W2.heap.size W2 g2) := hfin
      clear s0 KY KX KB KG KT hc1 hc2 hfin
      cases tk with
      | false =>
        have HM3 : Hid (O = none) := by rw [Hid, HM2.out, if_neg (by decide)]
        go_wp2
        refine bodyPost_ret (results_tmp2 rfl _ _ _) rfl ?_
        exact ⟨nilS10, false, rfl, fun _ => rfl, (fun ys hy => by rw [HM3.out] at hy; cases hy), HW2.out.trans (HF2.out.mono HW2.out.size)⟩
      | true =>
        have HM3 : Hid (O = (bytesP L.x.i (if x.k = 1 then x.e.i else z) ((l.drop (j + 1)).map RecV.r)).map fun ys => (bs ++ rb) ++ ys) := by rw [Hid, HM2.out, if_pos rfl]
        have hbg := box_below HBx.out HF2.out
        have y0 : g2.cell? ⟨wr.heap.size, 0, none⟩ = some (.int .i64 x.k) := box_cell hbg 0
        have y1 : g2.cell? ⟨wr.heap.size, 1, none⟩ = some (.int .i64 x.e.i) := box_cell hbg 1
        have hldg := ldW_box g2 _ _ _ _ hbg rfl
        have hlg := box_lt hbg
        have kb := KBy.out g2 HF2.out
        have hOg := hKo.out.below HF2.out (Nat.le_refl _)
        have HBg : Hid (Below w1.heap.size w1 g2) := hb.trans ((HB2.out.trans (HF2.out.mono HB2.out.size)).mono hsz)
        clear HM2 KBy hbg hKo HBx HB2
        obtain ⟨q, Hq⟩ : ∃ q, Hid ((if x.k = 1 then x.e.i else z) = q) := ⟨_, rfl⟩
        rw [Hq.out] at HM3
        by_cases hk1 : x.k = 1
        · obtain rfl : x.e.i = q := by rw [← Hq.out, if_pos hk1]
          rw [hk1] at y0
          go_wp2_with fail
          refine kb.mono ?_
          rintro _ w3 ⟨v3, rfl, hv3, hb3⟩
          have ho3 := hOg.below hb3 (Nat.le_refl _)
          obtain ⟨p3, c3, rfl, -⟩ := id hv3
          have HB3 : Hid (Below w1.heap.size w1 w3) := HBg.out.trans (hb3.mono HBg.out.size)
          have hz3 := HB3.out.size
          obtain ⟨i0, hi, hz0, hzs1, hzs2⟩ := info_parts info8c
          have hll := HLn.out
          have hbl : bs.length ≤ 1099511627776 := by omega
          have hrl : rb.length ≤ 1099511627776 := by omega
          clear kb hOg hb3 y0 y1 hldg
          go_wp2_with (at_builtin; refine ap_slice _ rfl _ _ 33 rfl w1.heap.size 5 i0 Tryz.underlying33 hi hz0 hzs1 hzs2 (.slice r.p r.n r.c) bs rb rfl hv3 ho3 hbl hrl hz3 ?_; intro v' w' hown' hbw'; refine Halt8.out ?_)
          obtain ⟨p', c', rfl⟩ := owns_shape hown'
          have HP : Hid (Owns w' w1.heap.size 5 (.slice p' (bs ++ rb).length c') (bs ++ rb)) := hown'
          have HBw : Hid (Below w1.heap.size w1 w') := HB3.out.trans hbw'
          have HLn2 : Hid ((bs ++ rb).length ≤ (j + 1) * 1100000) := by rw [Hid, List.length_append]; omega
          clear hown' hbw' hv3 ho3
          generalize hnb : (bs ++ rb).length = nn at *
          have HNB : Hid ((bs ++ rb).length = nn) := hnb
          clear hnb
          constructor
          go_wp2
          go_roundw
          case rel => exact ⟨j + 1, ⟨p', nn, c'⟩, bs ++ rb, _, rfl, rfl, by go_num, by omega, HP, HM3, (by rw [Hid, HNB.out]; exact HLn2.out), HBw.out⟩
          case measure => simp only [intOf]; omega
        · obtain rfl : z = q := by rw [← Hq.out, if_neg hk1]
          have hk1' : (x.k == 1) = false := by simpa using hk1
          go_wp2_with fail
          refine kb.mono ?_
          rintro _ w3 ⟨v3, rfl, hv3, hb3⟩
          have ho3 := hOg.below hb3 (Nat.le_refl _)
          obtain ⟨p3, c3, rfl, -⟩ := id hv3
          have HB3 : Hid (Below w1.heap.size w1 w3) := HBg.out.trans (hb3.mono HBg.out.size)
          have hz3 := HB3.out.size
          obtain ⟨i0, hi, hz0, hzs1, hzs2⟩ := info_parts info8c
          have hll := HLn.out
          have hbl : bs.length ≤ 1099511627776 := by omega
          have hrl : rb.length ≤ 1099511627776 := by omega
          clear kb hOg hb3 y0 y1 hldg
          go_wp2_with (at_builtin; refine ap_slice _ rfl _ _ 33 rfl w1.heap.size 5 i0 Tryz.underlying33 hi hz0 hzs1 hzs2 (.slice r.p r.n r.c) bs rb rfl hv3 ho3 hbl hrl hz3 ?_; intro v' w' hown' hbw'; refine Halt8.out ?_)
          obtain ⟨p', c', rfl⟩ := owns_shape hown'
          have HP : Hid (Owns w' w1.heap.size 5 (.slice p' (bs ++ rb).length c') (bs ++ rb)) := hown'
          have HBw : Hid (Below w1.heap.size w1 w') := HB3.out.trans hbw'
          have HLn2 : Hid ((bs ++ rb).length ≤ (j + 1) * 1100000) := by rw [Hid, List.length_append]; omega
          clear hown' hbw' hv3 ho3
          generalize hnb : (bs ++ rb).length = nn at *
          have HNB : Hid ((bs ++ rb).length = nn) := hnb
          clear hnb
          constructor
          go_wp2
          go_roundw
          case rel => exact ⟨j + 1, ⟨p', nn, c'⟩, bs ++ rb, _, rfl, rfl, by go_num, by omega, HP, HM3, (by rw [Hid, HNB.out]; exact HLn2.out), HBw.out⟩
          case measure => simp only [intOf]; omega
    · obtain rfl : j = s.n := by omega
      have HF3 : Hid (O = some bs) := by
        rw [Hid, HM.out, List.drop_of_length_le (by rw [hnn.out]; exact Nat.le_refl _)]
        show (some []).map _ = _
        simp
      have HO2 : Hid (Owns wr w.heap.size 5 (.slice r.p r.n r.c) bs) := row_mono HO.out hz1
      clear HW HF HM HO
      go_wp2
      refine bodyPost_ret (results_tmp2 rfl _ _ _) rfl ?_
      exact ⟨r, true, rfl, (fun h => by rw [HF3.out] at h; cases h), (fun ys hy => by rw [HF3.out] at hy; cases hy; exact ⟨rfl, HO2.out⟩), HBr.out⟩
def OutsO (w : World) (ys : List Int) (e : Ending) (w' : World) : Prop := ∃ v', e = .returned v' ∧ Owns w' w.heap.size 5 v' ys ∧ Below w.heap.size w w'
set_option maxRecDepth 100000 in
set_option maxHeartbeats 2000000 in
theorem bytesO_any (w : World) (hT : Tab w) (x : RecV) (hF : FitsR w x) (hf : FewF x.e.f.f) (hc0 : FewC x.e.c) : Calls Tryz.prog 17 #[.agg x.arr] w (OutsO w (recB11 x.r)) := by
  have hb1 : Below w.heap.size w (w.alloc (.cells x.arr 32)) := (Below.refl _ _).alloc (Nat.le_refl _) _
  have hbox := heap_alloc_new w (.cells x.arr 32)
  have hlt : w.heap.size < (w.alloc (.cells x.arr 32)).heap.size := by simp
  have HB : Hid (recB11 x.r = if goodR11 x.r = true then frameB (bodyR11 x.r) else []) := by
    have hle : (bodyR11 x.r).length ≤ 1000000 := body_len hf hc0
    unfold recB11 Hid
    cases goodR11 x.r with
    | true => rw [if_pos rfl, if_pos (by simp; omega)]
    | false => rfl
  have k1 := goodR_any _ x (hF.below hb1)
  have K2 : Hid (∀ W, Below w.heap.size w W → Calls Tryz.prog 45 #[.agg x.arr] W fun e w' => ∃ v, e = .returned v ∧ Owns w' W.heap.size 5 v (bodyR11 x.r) ∧ Below W.heap.size W w') := fun W h => contentR_any W x (hF.below h) hf hc0
  have KF : Hid (∀ W v ys, Below w.heap.size w W → Has W v ys → ys.length ≤ 1000000 → IsB ys → Calls Tryz.prog 44 #[v] W fun e w' => ∃ v', e = .returned v' ∧ Owns w' W.heap.size 5 v' (frameB ys) ∧ Below W.heap.size W w') := fun W v ys hW h hl hB => frame_any v ys W (hT.below hW (Nat.le_refl _)) h (by omega) hB
  have hle : (bodyR11 x.r).length ≤ 1000000 := body_len hf hc0
  have HI : Hid (IsB (bodyR11 x.r)) := IsB.append (zigB_isB _) (partR_isB _)
  generalize recB11 x.r = rb at *
  generalize bodyR11 x.r = bs at *
  generalize goodR11 x.r = g at *
  clear hF hf hc0 hT
  have hld := ldW_box _ _ _ _ _ hbox rfl
  cases g with
  | false =>
    have HR : Hid (rb = []) := by rw [Hid, HB.out, if_neg (by decide)]
    clear HB K2 KF
    go_enter Tryz.func17, Tryz.ntmps17
    go_wp2_with fail
    refine k1.mono ?_
    rintro _ w2 ⟨rfl, hb2⟩
    go_wp2
    go_ret
    exact ⟨_, rfl, by rw [HR.out]; exact Owns.nil _ _ _, hb1.trans (hb2.mono hb1.size)⟩
  | true =>
    have HR : Hid (rb = frameB bs) := by rw [Hid, HB.out, if_pos rfl]
    clear HB
    go_enter Tryz.func17, Tryz.ntmps17
    go_wp2_with fail
    refine k1.mono ?_
    rintro _ w2 ⟨rfl, hb2⟩
    have hB2 := hb1.trans (hb2.mono hb1.size)
    have hbox2 := box_below hbox hb2
    have hld2 := ldW_box _ _ _ _ _ hbox2 rfl
    have hl2 := box_lt hbox2
    have k2 := K2.out w2 hB2
    clear k1 hld hbox hlt
    go_wp2_with fail
    refine k2.mono ?_
    rintro _ w3 ⟨v3, rfl, ho3, hb3⟩
    have hB3 := hB2.trans (hb3.mono hB2.size)
    have kf := KF.out w3 v3 bs hB3 ho3.has hle HI.out
    go_wp2_with fail
    refine kf.mono ?_
    rintro _ w4 ⟨v4, rfl, ho4, hb4⟩
    go_wp2
    go_ret
    exact ⟨_, rfl, by rw [HR.out]; exact row_mono ho4 hB3.size, hB3.trans (hb4.mono hB3.size)⟩

theorem few_zero : FewF noEV.f.f ∧ FewC noEV.c := ⟨⟨by decide, by decide⟩, ⟨by decide, by decide, by decide, by decide⟩⟩
def recsEB (es : List EntV) : List Int := (es.map fun e => recB11 (recE e.e)).flatten
theorem recsEB_snoc {es : List EntV} {j : Nat} (h : j < es.length) : recsEB (es.take (j + 1)) = recsEB (es.take j) ++ recB11 (recE (es.getD j noEV).e) := by
  unfold recsEB
  rw [take_snocE h, List.map_append, List.flatten_append]
  simp
theorem recsEB_len (es : List EntV) : (recsEB es).length ≤ es.length * 1100000 := by
  induction es with
  | nil => exact Nat.zero_le _
  | cons e l ih =>
    have := recB_small (recE e.e)
    show (recB11 (recE e.e) ++ recsEB l).length ≤ _
    rw [List.length_append, List.length_cons]
    omega
set_option maxRecDepth 100000 in
set_option maxHeartbeats 1000000 in
theorem allOf_any (w : World) (hT : Tab w) (x : StaV) (hi : inI x.i) (ht : inI x.t) (hh : FitsH x.h) (hE : HasE w x.w x.es) (hf : ∀ e ∈ x.es, FewF e.f.f ∧ FewC e.c) (hl : x.es.length ≤ 99999) :
    Calls Tryz.prog 154 #[.agg x.arr] w (OutsO w (allB11 x.s)) := by
  have hB1 : Below w.heap.size w (w.alloc (.cells x.arr 82)) := (Below.refl _ w).alloc (Nat.le_refl _) _
  have hbx := heap_alloc_new w (.cells x.arr 82)
  have hz1 : (w.alloc (.cells x.arr 82)).heap.size = w.heap.size + 1 := by simp
  have y0 : (w.alloc (.cells x.arr 82)).cell? ⟨w.heap.size, 0, none⟩ = some (.int .i64 x.i) := box_cell hbx 0
  have y1 : (w.alloc (.cells x.arr 82)).cell? ⟨w.heap.size, 1, none⟩ = some (.int .i64 x.t) := box_cell hbx 1
  have hnn : Hid (x.es.length = x.w.n) := hE.n
  have hn : x.w.n ≤ 99999 := by rw [← hnn.out]; exact hl
  have hcc := hE.c
  have KB : Hid (∀ W (r : RecV), Below w.heap.size w W → FitsR W r → FewF r.e.f.f ∧ FewC r.e.c → Calls Tryz.prog 17 #[.agg r.arr] W (OutsO W (recB11 r.r))) := fun W r hW hr hfr => bytesO_any W (hT.below hW (Nat.le_refl _)) r hr hfr.1 hfr.2
  have HA : Hid (allB11 x.s = recB11 ⟨3, noE10, noH11, x.i, x.t⟩ ++ recB11 ⟨2, noE10, x.h, 0, 0⟩ ++ recsEB x.es) := by
    show _ ++ _ ++ _ = _
    congr 1
    unfold recsEB
    show (List.map _ (List.map EntV.e x.es)).flatten = _
    rw [List.map_map]
    rfl
  have k1 := KB.out _ ⟨3, noEV, noH11, x.i, x.t⟩ hB1 ⟨in3, (EntG.nil _ (fun _ => True)).fits, ⟨in0, in0, in0⟩, hi, ht⟩ few_zero
  have HE : Hid (HasE w x.w x.es) := hE
  have HF : Hid (∀ e ∈ x.es, FewF e.f.f ∧ FewC e.c) := hf
  have HH : Hid (FitsH x.h) := hh
  have HBx : Hid _ := hbx
  have hl3 := recB_small ⟨3, noE10, noH11, x.i, x.t⟩
  have hl2 := recB_small ⟨2, noE10, x.h, 0, 0⟩
  obtain ⟨i0, hi0, hz0, hzs1, hzs2⟩ := info_parts info8c
  clear hE hf hl hT hi ht hh hbx
  generalize allB11 x.s = AB at *
  have k1' : Calls Tryz.prog 17 #[.agg (RecV.arr ⟨3, noEV, noH11, x.i, x.t⟩)] (w.alloc (.cells x.arr 82)) (OutsO (w.alloc (.cells x.arr 82)) (recB11 ⟨3, noE10, noH11, x.i, x.t⟩)) := k1
  clear k1
  generalize recB11 ⟨3, noE10, noH11, x.i, x.t⟩ = b3 at *
  go_enter Tryz.func154, Tryz.ntmps154
  go_wp2_with fail
  refine k1'.mono ?_
  rintro _ w2 ⟨v2, rfl, ho2, hb2⟩
  obtain ⟨p2, c2, rfl⟩ := owns_shape ho2
  have HBx2 : Hid (w2.heap[w.heap.size]? = some (.cells x.arr 82 (0, 0))) := box_below HBx.out hb2
  have HB2 : Hid (Below w.heap.size w w2) := hB1.trans (hb2.mono hB1.size)
  rw [hz1] at ho2
  have hzz2 : w.heap.size + 1 ≤ w2.heap.size := by have := hb2.size; omega
  have hldH : (ldH (.pointer (some ⟨w.heap.size, 2, none⟩))).run Tryz.prog w2 = .ok (.agg x.h.arr) w2 := SAt.ldH (pre := []) (post := []) (x := x) (T := 82) (by
    have := HBx2.out
    unfold SAt
    rw [List.nil_append, List.append_nil, Array.toArray_toList]
    exact this)
  have k2 : Calls Tryz.prog 17 #[.agg (RecV.arr ⟨2, noEV, x.h, 0, 0⟩)] w2 (OutsO w2 (recB11 ⟨2, noE10, x.h, 0, 0⟩)) := KB.out w2 ⟨2, noEV, x.h, 0, 0⟩ HB2.out ⟨in2, (EntG.nil _ (fun _ => True)).fits, HH.out, in0, in0⟩ few_zero
  have hlw2 := box_lt HBx2.out
  clear k1' y0 y1 hb2 HBx
  generalize recB11 ⟨2, noE10, x.h, 0, 0⟩ = b2 at *
  go_wp2_with fail
  refine k2.mono ?_
  rintro _ w3 ⟨v3, rfl, ho3, hb3⟩
  obtain ⟨p3, c3, rfl⟩ := owns_shape ho3
  have hv3 := ho3.has
  have ho2' := ho2.below hb3 (Nat.le_refl _)
  have HBx3 : Hid (w3.heap[w.heap.size]? = some (.cells x.arr 82 (0, 0))) := box_below HBx2.out hb3
  have HB3 : Hid (Below w.heap.size w w3) := HB2.out.trans (hb3.mono HB2.out.size)
  have hz3 : w.heap.size + 1 ≤ w3.heap.size := by have := hb3.size; omega
  clear k2 hldH hb3 HBx2 ho2 ho3 hlw2
  go_wp2_with (at_builtin; refine ap_slice _ rfl _ _ 33 rfl (w.heap.size + 1) 5 i0 Tryz.underlying33 hi0 hz0 hzs1 hzs2 (.slice p2 b3.length c2) b3 b2 rfl hv3 ho2' (by omega) (by omega) hz3 ?_; intro v4 w4 ho4 hb4; refine Halt8.out ?_)
  obtain ⟨p4, c4, rfl⟩ := owns_shape ho4
  have HO4 : Hid (Owns w4 (w.heap.size + 1) 5 (.slice p4 (b3 ++ b2).length c4) (b3 ++ b2)) := ho4
  have HBx4 : Hid (w4.heap[w.heap.size]? = some (.cells x.arr 82 (0, 0))) := (hb4.block _ (by omega)).trans HBx3.out
  have HB4 : Hid (Below w.heap.size w w4) := HB3.out.trans (hb4.mono (by omega))
  have hz4 : w.heap.size + 1 ≤ w4.heap.size := Nat.le_trans hz3 hb4.size
  have HLn4 : Hid ((b3 ++ b2).length ≤ 2200000) := by rw [Hid, List.length_append]; omega
  have y5 : w4.cell? ⟨w.heap.size, 5, none⟩ = some (.slice x.w.p x.w.n x.w.c) := box_cell HBx4.out 5
  have hlw4 := box_lt HBx4.out
  clear ho4 hb4 hv3 ho2' HBx3
  generalize b3 ++ b2 = b4 at *
  constructor
  go_wp2
  clear y5
  go_loopw [3, 21] (fun s3 s21 wr => ∃ (j : Nat) (r : Sl10), s3 = .slice r.p r.n r.c ∧ s21 = .int .i64 (j : Nat) ∧ j ≤ x.w.n ∧ Hid (Owns wr (w.heap.size + 1) 5 (.slice r.p r.n r.c) (b4 ++ recsEB (x.es.take j))) ∧ Below (w.heap.size + 1) w4 wr) (fun _ s21 _ => x.w.n - (intOf s21).toNat)
  case atStart => exact ⟨0, ⟨p4, b4.length, c4⟩, rfl, rfl, Nat.zero_le _, (by show Owns _ _ _ _ (b4 ++ []); rw [List.append_nil]; exact HO4.out), Below.refl _ _⟩
  case round =>
    obtain ⟨j, r, rfl, rfl, hj, HO, hb⟩ := hrel
    have hsz := hb.size
    have HBr : Hid (Below w.heap.size w wr) := HB4.out.trans (hb.mono (by omega))
    by_cases hjn : j < x.w.n
    · have hEr := HE.out.below HBr.out
      obtain ⟨g, o, hp, hg, hld⟩ := hEr.ld hjn
      have hjl : j < x.es.length := by rw [hnn.out]; exact hjn
      have hej : x.es.getD j noEV ∈ x.es := getD_memE hjl
      have hFe := hEr.all _ hej
      have hfe := HF.out _ hej
      have HM2 : Hid (recsEB (x.es.take (j + 1)) = recsEB (x.es.take j) ++ recB11 (recE (x.es.getD j noEV).e)) := recsEB_snoc hjl
      have hel : (recsEB (x.es.take j)).length ≤ j * 1100000 := Nat.le_trans (recsEB_len _) (Nat.mul_le_mul_right _ (by rw [List.length_take]; omega))
      clear hEr
      generalize x.es.getD j noEV = e at *
      rw [hp] at *
      have hbE := heap_alloc_new wr (.cells #[.int .i64 0, .int .i64 0, .int .i64 0, .int .i64 0, .int .i64 0, .int .i64 0, .string ⟨#[]⟩, .string ⟨#[]⟩, .string ⟨#[]⟩, .string ⟨#[]⟩, .int .i64 0, .slice none 0 0, .slice none 0 0] 28)
      have hth := there_box hbE 0 13 (Nat.le_refl _)
      have hst := stE_arr 0 e hth
      have hbE2 := setE_box e hbE rfl
      have hB2 : Below wr.heap.size wr ((wr.alloc (.cells #[.int .i64 0, .int .i64 0, .int .i64 0, .int .i64 0, .int .i64 0, .int .i64 0, .string ⟨#[]⟩, .string ⟨#[]⟩, .string ⟨#[]⟩, .string ⟨#[]⟩, .int .i64 0, .slice none 0 0, .slice none 0 0] 28)).setCells wr.heap.size 0 e.arr.toList) := setCells_below (Nat.le_refl _) _ _ ((Below.refl _ _).alloc (Nat.le_refl _) _)
      have hld2 := ldE_box _ _ _ _ _ hbE2 rfl
      have HBW : Hid (Below w.heap.size w ((wr.alloc (.cells #[.int .i64 0, .int .i64 0, .int .i64 0, .int .i64 0, .int .i64 0, .int .i64 0, .string ⟨#[]⟩, .string ⟨#[]⟩, .string ⟨#[]⟩, .string ⟨#[]⟩, .int .i64 0, .slice none 0 0, .slice none 0 0] 28)).setCells wr.heap.size 0 e.arr.toList)) := HBr.out.trans (hB2.mono HBr.out.size)
      have kb : Calls Tryz.prog 17 #[.agg (RecV.arr ⟨1, e, noH11, 0, 0⟩)] ((wr.alloc (.cells #[.int .i64 0, .int .i64 0, .int .i64 0, .int .i64 0, .int .i64 0, .int .i64 0, .string ⟨#[]⟩, .string ⟨#[]⟩, .string ⟨#[]⟩, .string ⟨#[]⟩, .int .i64 0, .slice none 0 0, .slice none 0 0] 28)).setCells wr.heap.size 0 e.arr.toList) (OutsO _ (recB11 (recE e.e))) := KB.out _ ⟨1, e, noH11, 0, 0⟩ HBW.out ⟨in1, hFe.below hB2, ⟨in0, in0, in0⟩, in0, in0⟩ hfe
      have HB2' : Hid _ := hB2
      have hlE := box_lt hbE2
      have hlr := recB_small (recE e.e)
      clear hbE hbE2 hB2 hFe hfe hej
      generalize recB11 (recE e.e) = rb at *
      go_wp2_with fail
      generalize (wr.alloc (.cells #[.int .i64 0, .int .i64 0, .int .i64 0, .int .i64 0, .int .i64 0, .int .i64 0, .string ⟨#[]⟩, .string ⟨#[]⟩, .string ⟨#[]⟩, .string ⟨#[]⟩, .int .i64 0, .slice none 0 0, .slice none 0 0] 28)).setCells wr.heap.size 0 e.arr.toList = W2 at *
      clear hld hth hst hld2
      refine kb.mono ?_
      rintro _ w5 ⟨v5, rfl, ho5, hb5⟩
      obtain ⟨p5, c5, rfl⟩ := owns_shape ho5
      have hv5 := ho5.has
      have hB5 := HB2'.out.trans (hb5.mono HB2'.out.size)
      have hoo := HO.out.below hB5 (Nat.le_refl _)
      have HB5 : Hid (Below (w.heap.size + 1) w4 w5) := hb.trans (hB5.mono (by omega))
      have hz5 : w.heap.size + 1 ≤ w5.heap.size := by have := hB5.size; omega
      have hll := HLn4.out
      have hbl : (b4 ++ recsEB (x.es.take j)).length ≤ 1099511627776 := by rw [List.length_append]; omega
      clear kb ho5 hb5 hB5 HB2'
      go_wp2_with (at_builtin; refine ap_slice _ rfl _ _ 33 rfl (w.heap.size + 1) 5 i0 Tryz.underlying33 hi0 hz0 hzs1 hzs2 (.slice r.p r.n r.c) (b4 ++ recsEB (x.es.take j)) rb rfl hv5 hoo hbl (by omega) hz5 ?_; intro v' w' hown' hbw'; refine Halt8.out ?_)
      obtain ⟨p', c', rfl⟩ := owns_shape hown'
      have HP : Hid (Owns w' (w.heap.size + 1) 5 (.slice p' ((b4 ++ recsEB (x.es.take j)) ++ rb).length c') (b4 ++ recsEB (x.es.take (j + 1)))) := by rw [Hid, HM2.out, ← List.append_assoc]; exact hown'
      have HBw : Hid (Below (w.heap.size + 1) w4 w') := HB5.out.trans hbw'
      clear hown' hbw' hv5 hoo hbl HM2 HB5
      generalize ((b4 ++ recsEB (x.es.take j)) ++ rb).length = nn at *
      constructor
      go_wp2
      go_roundw
      case rel => exact ⟨j + 1, ⟨p', nn, c'⟩, rfl, by go_num, by omega, HP, HBw.out⟩
      case measure => simp only [intOf]; omega
    · obtain rfl : j = x.w.n := by omega
      have HO2 : Hid (Owns wr w.heap.size 5 (.slice r.p r.n r.c) AB) := by
        have h9 := HO.out
        rw [← hnn.out, List.take_length] at h9
        rw [Hid, HA.out]
        exact row_mono h9 (by omega)
      clear HE HF HO
      go_wp2
      go_ret
      exact ⟨_, rfl, HO2.out, HBr.out⟩
end Go.Proofs.YtkbbhllchombdaaGreatDoor

namespace Go.Proofs.YtkbbhllchombdaaGreatDoor
open Go.RowKit Go.Shelf Go.Maps
structure RowW (w : World) (G : Nat → Prop) (s : Sl10) (l : List RecV) : Prop where
  has : HasW w s l
  blk : 0 < s.n → ∃ g o a fr, s.p = some ⟨g, o, none⟩ ∧ G g ∧ w.heap[g]? = some (.cells a 32 fr)
  all : ∀ x ∈ l, RecG w G x
section
variable {X Y : World} {G H : Nat → Prop} {s : Sl10} {l : List RecV}
theorem RowW.stay (h : RowW X G s l) (k1 : Stay G 3 X Y) (k2 : Stay G 32 X Y) : RowW Y G s l := by
  refine ⟨⟨h.has.n, h.has.c, h.has.nl, fun h0 => ?_, fun x hx => ((h.all x hx).stay k1).fits⟩, fun h0 => ?_, fun x hx => (h.all x hx).stay k1⟩
  · obtain ⟨b, o, hp, hlt, hc⟩ := h.has.at' h0
    obtain ⟨g, o', a, fr, hp', hg, hb⟩ := h.blk h0
    rw [hp] at hp'
    cases hp'
    have hb2 := k2.block _ _ _ hg hb
    exact ⟨b, o, hp, box_lt hb2, fun i hi j hj => (World.cell?_of_block (a := ⟨b, o + i * 19 + j, none⟩) (hb2.trans hb.symm)).trans (hc i hi j hj)⟩
  · obtain ⟨g, o, a, fr, hp, hg, hb⟩ := h.blk h0
    exact ⟨g, o, a, fr, hp, hg, k2.block _ _ _ hg hb⟩
theorem RowW.mono (h : RowW X G s l) (hg : ∀ k, G k → H k) : RowW X H s l := ⟨h.has, fun h0 => by
  obtain ⟨g, o, a, fr, hp, h1, hb⟩ := h.blk h0
  exact ⟨g, o, a, fr, hp, hg g h1, hb⟩, fun x hx => (h.all x hx).mono hg⟩
theorem RowW.of_row {B : Nat} (h : RowR 32 X B (.slice s.p s.n s.c) l) (hG : ∀ k, B ≤ k → k < X.heap.size → G k) : RowW X G s l := by
  refine ⟨h.has, fun h0 => ?_, fun x hx => .of_owns (h.all x hx) hG⟩
  rcases h.row.2 with ⟨hv, hn⟩ | ⟨g, cap, cur, hv, hB, hg, _⟩
  · simp only [Value.slice.injEq] at hv
    omega
  · simp only [Value.slice.injEq] at hv
    exact ⟨g, 0, cur, _, hv.1, hG g hB (box_lt hg), hg⟩
theorem Stay.of_gkeep {t : TypeId} (h : GKeep G X Y) : Stay G t X Y := ⟨h.1, fun b _ _ hg hb => (h.2 b hg).trans hb⟩
end
section
variable {w0 w w' : World} {lb d : Nat} {S G : Nat → Prop} {M : DM} {L : LogV}
theorem Log11.grow (h : Log11 w0 w lb d S G M L) (hb : Below w.heap.size w w') : Log11 w0 w' lb d S (more8 G w w') M L := by
  have h2 := h.below hb
  refine ⟨h2.disk, h2.box, h2.sta.mono more_in, .inl h2.gl, fun k hk hs => ?_, fun k hk => ?_, h2.seg, h2.last⟩
  · rcases hk with hk | ⟨h3, _⟩
    · exact h.apart k hk hs
    · have := (h.disk.own k hs).2
      omega
  · rcases hk with hk | ⟨h3, h4⟩
    · exact h2.own k hk
    · have := h.disk.bel.size
      exact ⟨by omega, h4⟩
theorem Log11.folded {rv : RecV} {r : Ending} (h : Log11 w0 w lb d S G M L) (hf : Fold11 w lb 145 (logPre d L) L.x (logPost L) G rv r w') :
    r = .returned (.bool (pfold11 L.x.s rv.r).2) ∧ ∃ x', Log11 w0 w' lb d S (more8 G w w') M ⟨L.seg, L.last, x', L.dead⟩ ∧ x'.s = (pfold11 L.x.s rv.r).1 ∧ Turn G w w' ∧ (∀ t, t ≠ 28 → t ≠ 145 → Stay G t w w') := by
  obtain ⟨hr, x', h1, h2, h3, h4⟩ := hf
  have ht : Turn G w w' := h4.mono fun k hk => .inl (by
    rcases hk with rfl | ⟨_, hk⟩
    · exact h.gl
    · exact (h.sta.row.blk hk).1)
  refine ⟨hr, x', ⟨h.disk.turn ht (fun k hs hg => h.apart k hg hs) fun k hk => (h.own k hk).1, h1, h3, .inl h.gl, fun k hk hs => ?_, fun k hk => ?_, h.seg, h.last⟩, h2, ht, fun t n1 n2 => ⟨h4.size, fun b a fr hg hb => (h4.block b (box_lt hb) fun hk => ?_).trans hb⟩⟩
  · rcases hk with hk | ⟨h5, _⟩
    · exact h.apart k hk hs
    · have := (h.disk.own k hs).2
      omega
  · rcases hk with hk | ⟨h5, h6⟩
    · exact ⟨(h.own k hk).1, Nat.lt_of_lt_of_le (h.own k hk).2 h4.size⟩
    · have := h.disk.bel.size
      exact ⟨by omega, h6⟩
  · rcases hk with rfl | ⟨_, hk⟩
    · have hbx := h.box
      unfold SAt at hbx
      rw [hbx] at hb
      simp only [Option.some.injEq, Obj.cells.injEq] at hb
      exact n2 hb.2.1.symm
    · obtain ⟨_, c, hc⟩ := h.sta.row.blk hk
      rw [hc] at hb
      simp only [Option.some.injEq, Obj.cells.injEq] at hb
      exact n1 hb.2.1.symm
end
def FewL (es : List EntV) : Prop := ∀ e ∈ es, FewF e.f.f ∧ FewC e.c
def FewS (s : Sta11) : Prop := ∀ e ∈ s.es, FewF e.f ∧ FewC e.c
theorem FewS.of {x : StaV} (h : FewS x.s) : FewL x.es := fun e he => h e.e (List.mem_map.2 ⟨e, he, rfl⟩)
structure LogU (w0 wb w : World) (lb d : Nat) (U : Nat → Prop) (M : DM) (W : WM) : Prop where
  ex : ∃ S G x, Log11 w0 w lb d S G M ⟨W.seg, W.n, x, W.dead⟩ ∧ x.s = W.s ∧ Turn U wb w ∧ ∀ k, S k ∨ G k → U k ∨ wb.heap.size ≤ k
section
variable {w0 wb w w' : World} {lb d : Nat} {U : Nat → Prop} {M : DM} {W : WM}
theorem LogU.of_S {S G : Nat → Prop} {L : LogV} (h : LogS w0 wb w lb d S G M L) (hs : L.seg = W.seg) (hn : L.last = W.n) (hd : L.dead = W.dead) (hx : L.x.s = W.s) (hU : ∀ k, S k ∨ G k → U k) (hgl : G lb) : LogU w0 wb w lb d U M W := by
  obtain ⟨S', h1, h2, h3⟩ := h.ex
  obtain ⟨sg, la, x, de⟩ := L
  dsimp only at hs hn hd hx
  subst hs hn hd
  refine ⟨S', G, x, h1, hx, h2.mono fun k hk => .inl (hU k (hk.imp id fun e => by rw [e]; exact hgl)), fun k hk => ?_⟩
  rcases hk with hk | hk
  · exact (h3 k hk).imp (fun h => hU k (.inl h)) id
  · exact .inl (hU k (.inr hk))
theorem LogS.since {S G : Nat → Prop} {L : LogV} (h : LogS w0 w w lb d S G M L) (hb : Below wb.heap.size wb w) : LogS w0 wb w lb d S G M L := by
  obtain ⟨S', h1, h2, h3⟩ := h.ex
  exact ⟨S', h1, (Turn.of_below hb (Nat.le_refl _)).trans h2, fun k hk => (h3 k hk).imp id fun h => Nat.le_trans hb.size h⟩
theorem LogU.of_S2 {w2 : World} {S G G2 : Nat → Prop} {L : LogV} (h : LogS w0 w2 w lb d S G2 M L) (hs : L.seg = W.seg) (hn : L.last = W.n) (hd : L.dead = W.dead) (hx : L.x.s = W.s) (hb : Below wb.heap.size wb w2) (hG : ∀ k, G2 k → G k ∨ wb.heap.size ≤ k) (hgl : G lb) : LogU w0 wb w lb d (fun k => S k ∨ G k) M W := by
  obtain ⟨S', h1, h2, h3⟩ := h.ex
  obtain ⟨sg, la, x, de⟩ := L
  dsimp only at hs hn hd hx
  subst hs hn hd
  have hz := hb.size
  refine ⟨S', G2, x, h1, hx, (Turn.of_below hb (Nat.le_refl _)).wide h2 fun k hk => .inl (hk.imp id fun e => by rw [e]; exact hgl), fun k hk => ?_⟩
  rcases hk with hk | hk
  · rcases h3 k hk with h | h
    · exact .inl (.inl h)
    · exact .inr (by omega)
  · rcases hG k hk with h | h
    · exact .inl (.inr h)
    · exact .inr h
end
end Go.Proofs.YtkbbhllchombdaaGreatDoor

namespace Go.Proofs.YtkbbhllchombdaaGreatDoor
open Go.RowKit Go.Shelf Go.Maps
attribute [local go_sem ↓] ldE_exec stE_exec ldE_execI stE_execI ldE_run ldE_box stE_box ldC_exec stC_exec ldC_execI stC_execI ldC_run ldW_exec stW_exec ldW_execI stW_execI ldW_box stW_box ldR_exec stR_exec ldR_execI stR_execI ldT_exec stT_exec ldT_execI stT_execI ldT_box ldU_exec stU_exec ldU_execI stU_execI ldH_exec stH_exec ldH_execI stH_execI ldH_run ldH_box stH_box oc_int oc_bool oc_string oc_slice oc_pointer
attribute [local go_sem ↓] bsE_exec bsE_execI bsE_run bsW_exec bsW_execI bsW_run bdE_exec bdE_execI bdE_run bdH_exec bdH_execI bdH_run bdB_exec bdB_execI bdB_run
theorem isB_of8 {l : List Int} (h : IsB l) : isB8 l := fun z hz => ⟨(h z hz).1, by have := (h z hz).2; omega⟩
def foldsP (s : Sta11) (l : List Rec11) : Sta11 := l.foldl (fun s r => (pfold11 s r).1) s
theorem folds_snoc (s : Sta11) (l : List Rec11) (r : Rec11) : foldsP s (l ++ [r]) = (pfold11 (foldsP s l) r).1 := by
  unfold foldsP
  rw [List.foldl_append]
  rfl
def nextQ (M : DM) (W : WM) : Nat × WM × DM :=
  if W.n = 999999999 then (0, W, M)
  else if M.readE (nameB11 W.n) ≠ 0 ∨ ((M.readB (nameB11 W.n)).length : Int) ≤ W.seg then (alone11 (M.readE (nameB11 W.n)), W, M)
  else (alone11 (begin11 M (W.n + 1)).1, ⟨W.seg, if (begin11 M (W.n + 1)).1 = 0 then W.n + 1 else W.n, W.s, W.dead⟩, (begin11 M (W.n + 1)).2)
theorem next_q (M : DM) (W : WM) (x : StaV) (_hx : x.s = W.s) : (nextP M ⟨W.seg, W.n, x, W.dead⟩).1 = (nextQ M W).1 ∧ (nextP M ⟨W.seg, W.n, x, W.dead⟩).2.2 = (nextQ M W).2.2 ∧ (nextP M ⟨W.seg, W.n, x, W.dead⟩).2.1 = ⟨(nextQ M W).2.1.seg, (nextQ M W).2.1.n, x, (nextQ M W).2.1.dead⟩ ∧ (nextQ M W).2.1.s = W.s := by
  unfold nextP nextQ
  dsimp only
  split
  · exact ⟨rfl, rfl, rfl, rfl⟩
  split
  · exact ⟨rfl, rfl, rfl, rfl⟩
  · exact ⟨rfl, rfl, rfl, rfl⟩
def saveP (M : DM) (W : WM) (rs : List Rec11) : Nat × WM × DM :=
  match bytesP W.s.i (last11 W.s) rs with
  | none => (2, W, M)
  | some bs => if rs = [] then (0, W, M)
    else if (M.append (nameB11 W.n) bs).1 ≠ 0 then ((M.append (nameB11 W.n) bs).1, W, (M.append (nameB11 W.n) bs).2)
    else if (M.append (nameB11 W.n) bs).2.syncs.1 ≠ 0 then ((M.append (nameB11 W.n) bs).2.syncs.1, W, (M.append (nameB11 W.n) bs).2.syncs.2)
    else nextQ (M.append (nameB11 W.n) bs).2.syncs.2 ⟨W.seg, W.n, foldsP W.s rs, W.dead⟩
theorem pfold_len (s : Sta11) (r : Rec11) : (pfold11 s r).1.es.length ≤ s.es.length + 1 := by
  unfold pfold11
  split
  · split
    · show (List.take _ _ ++ [_]).length ≤ _
      rw [List.length_append, List.length_take, List.length_singleton]
      omega
    split
    · exact Nat.le_succ _
    · show (if _ then List.drop _ _ else []).length ≤ _
      split
      · rw [List.length_drop]; omega
      · exact Nat.zero_le _
  · exact Nat.le_succ _
theorem bytesP_len : ∀ (l : List Rec11) (base last : Int) (bs : List Int), bytesP base last l = some bs → bs.length ≤ l.length * 1100000 ∧ IsB bs
  | [], _, _, bs, h => by cases h; exact ⟨Nat.zero_le _, IsB.nil⟩
  | r :: l, base, last, bs, h => by
    rw [bytesP_cons] at h
    split at h
    · cases hb : bytesP base (if r.k = 1 then r.e.i else last) l with
      | none => rw [hb] at h; cases h
      | some ys =>
        rw [hb] at h
        cases h
        obtain ⟨h1, h2⟩ := bytesP_len l base _ ys hb
        refine ⟨?_, IsB.append (recB_isB11 r) h2⟩
        have := recB_small r
        rw [List.length_append, List.length_cons]
        omega
    · cases h

set_option maxRecDepth 100000 in
set_option maxHeartbeats 1000000 in
theorem saveW_any {w0 w : World} {lb d c : Nat} {S G : Nat → Prop} {M : DM} {W : WM} {x : StaV} (h : Log11 w0 w lb d S G M ⟨W.seg, W.n, x, W.dead⟩) (hxs : x.s = W.s) (h0 : Gl11 w0) (hO : M.OkN c) (hc : c + 4 < 1099511627776) (hn : 1 ≤ W.n ∧ W.n ≤ 999999999) (hxl : x.es.length ≤ 100000000) (hh : Hard10) (hfh : FitsH hh) (s : Sl10) (es : List EntV) (hE : HasE w s es) (hf : FewL es) (hl : es.length ≤ 9999) (hg : ∀ r ∈ recs11 hh W.s (es.map EntV.e), goodR11 r = true) :
    Calls Tryz.prog 82 #[.pointer (some ⟨lb, 0, none⟩), .agg hh.arr, .slice s.p s.n s.c] w fun e w' => e = .returned (.int .i64 ((saveP M W (recs11 hh W.s (es.map EntV.e))).1 : Nat)) ∧ LogU w0 w w' lb d (fun k => S k ∨ G k) (saveP M W (recs11 hh W.s (es.map EntV.e))).2.2 (saveP M W (recs11 hh W.s (es.map EntV.e))).2.1 := by
  have hB1 : Below w.heap.size w (w.alloc (.cells hh.arr 30)) := (Below.refl _ w).alloc (Nat.le_refl _) _
  have hbx := heap_alloc_new w (.cells hh.arr 30)
  have hld := ldH_box _ _ _ _ _ hbx rfl
  have hlw := box_lt hbx
  have kn := news_any (LogS.of (h.below hB1)) hh hfh s es (hE.below hB1) (fun e he => (hf e he).1) (by omega)
  dsimp only at kn
  rw [hxs] at kn
  have hrl : (recs11 hh W.s (es.map EntV.e)).length ≤ es.length + 1 := by
    unfold recs11
    rw [List.length_append, List.length_map, List.length_map]
    split
    · simp
    · simp
  have HFew : Hid (∀ r ∈ recs11 hh W.s (es.map EntV.e), FewF r.e.f ∧ FewC r.e.c) := fun r hr => by
    unfold recs11 at hr
    rcases List.mem_append.1 hr with hr | hr
    · obtain ⟨e, he, rfl⟩ := List.mem_map.1 hr
      obtain ⟨e', he', rfl⟩ := List.mem_map.1 he
      exact hf e' he'
    · split at hr
      · cases hr
      · rw [List.mem_singleton.1 hr]
        exact few_zero
  have HP : Hid (saveP M W (recs11 hh W.s (es.map EntV.e)) = match bytesP W.s.i (last11 W.s) (recs11 hh W.s (es.map EntV.e)) with | none => (2, W, M) | some bs => if recs11 hh W.s (es.map EntV.e) = [] then (0, W, M) else if (M.append (nameB11 W.n) bs).1 ≠ 0 then ((M.append (nameB11 W.n) bs).1, W, (M.append (nameB11 W.n) bs).2) else if (M.append (nameB11 W.n) bs).2.syncs.1 ≠ 0 then ((M.append (nameB11 W.n) bs).2.syncs.1, W, (M.append (nameB11 W.n) bs).2.syncs.2) else nextQ (M.append (nameB11 W.n) bs).2.syncs.2 ⟨W.seg, W.n, foldsP W.s (recs11 hh W.s (es.map EntV.e)), W.dead⟩) := rfl
  generalize saveP M W (recs11 hh W.s (es.map EntV.e)) = R at *
  have HGd : Hid (∀ r ∈ recs11 hh W.s (es.map EntV.e), goodR11 r = true) := hg
  generalize recs11 hh W.s (es.map EntV.e) = rs at *
  have HLog : Hid (Log11 w0 w lb d S G M ⟨W.seg, W.n, x, W.dead⟩) := h
  have HXS : Hid (x.s = W.s) := hxs
  have HG0 : Hid (Gl11 w0) := h0
  have HO : Hid (M.OkN c) := hO
  have hrl2 : rs.length ≤ 10000 := by omega
  clear h hxs h0 hO hfh hE hf hl hg hbx hrl
  go_enter Tryz.func82, Tryz.ntmps82
  go_wp2_with fail
  generalize w.alloc (.cells hh.arr 30) = W0 at *
  refine kn.mono ?_
  rintro _ w1 ⟨r, l, rfl, hrow, hlr, hb1⟩
  have hBw1 : Below w.heap.size w w1 := hB1.trans (hb1.mono hB1.size)
  have hL1 := HLog.out.grow hBw1
  have hRW : RowW w1 (more8 G w w1) r l := RowW.of_row hrow (more_new hB1.size)
  have hll : l.length = rs.length := by rw [← hlr, List.length_map]
  have hfl : ∀ y ∈ l, FewF y.e.f.f ∧ FewC y.e.c := fun y hy => HFew.out y.r (by rw [← hlr]; exact List.mem_map.2 ⟨y, hy, rfl⟩)
  have hgl : ∀ y ∈ l, goodR11 y.r = true := fun y hy => HGd.out y.r (by rw [← hlr]; exact List.mem_map.2 ⟨y, hy, rfl⟩)
  have kb := bytesW_any (LogS.of hL1) HG0.out (by exact hL1.sta.row.has) (by show x.es.length ≤ _; omega) hL1.sta.i r l hRW.has hfl hgl (by omega)
  dsimp only at kb
  have hxi : x.i = W.s.i := by have := HXS.out; rw [← this]; rfl
  rw [hlr, HXS.out, hxi] at kb
  have hrn : Hid (r.n = rs.length) := by rw [Hid, ← hRW.has.n, hll]
  have hrb : r.n ≤ 10000 := by rw [hrn.out]; exact hrl2
  have HL1 : Hid (Log11 w0 w1 lb d S (more8 G w w1) M ⟨W.seg, W.n, x, W.dead⟩) := hL1
  have HRW : Hid (RowW w1 (more8 G w w1) r l) := hRW
  have HLR : Hid (l.map RecV.r = rs) := hlr
  have HB1 : Hid (Below w.heap.size w w1) := hBw1
  have hcr := hRW.has.c
  clear kn hld hlw hrow hlr hll hb1 hBw1 hL1 hRW hfl hgl hxi hB1 HFew HGd
  generalize hbo : bytesP W.s.i (last11 W.s) rs = O at *
  have HBO : Hid (bytesP W.s.i (last11 W.s) rs = O) := hbo
  clear hbo
  go_wp2_with fail
  refine kb.mono ?_
  rintro _ w2 ⟨q, ok, rfl, hq1, hq2, hb2⟩
  have HB2 : Hid (Below w1.heap.size w1 w2) := hb2
  have HBw : Hid (Below w.heap.size w w2) := HB1.out.trans (hb2.mono HB1.out.size)
  cases O with
  | none =>
    obtain rfl := hq1 rfl
    have HF : Hid (R = (2, W, M)) := HP.out
    clear kb hq1 hq2 HP hb2
    go_wp2
    go_ret
    exact ⟨by rw [HF.out]; rfl, by rw [HF.out]; exact LogU.of_S (LogS.of (HLog.out.below HBw.out) |>.since HBw.out) rfl rfl rfl HXS.out (fun k hk => hk) HLog.out.gl⟩
  | some bs =>
    obtain ⟨rfl, hob⟩ := hq2 bs rfl
    obtain ⟨hbl, hbB⟩ := bytesP_len rs _ _ bs HBO.out
    by_cases hrs : rs = []
    · have HF : Hid (R = (0, W, M)) := by rw [Hid, HP.out]; exact if_pos hrs
      have hr0 : r.n = 0 := by rw [hrn.out, hrs]; rfl
      clear kb hq1 hq2 HP hb2 hob
      rw [hr0] at *
      go_wp2
      go_ret
      exact ⟨by rw [HF.out]; rfl, by rw [HF.out]; exact LogU.of_S (LogS.of (HLog.out.below HBw.out) |>.since HBw.out) rfl rfl rfl HXS.out (fun k hk => hk) HLog.out.gl⟩
    have hr1 : 0 < r.n := by rw [hrn.out]; exact List.length_pos_iff.2 hrs
    have hr1' : ((r.n : Int) == 0) = false := by rw [beq_eq_false_iff_ne]; omega
    have HP2 : Hid (R = if (M.append (nameB11 W.n) bs).1 ≠ 0 then ((M.append (nameB11 W.n) bs).1, W, (M.append (nameB11 W.n) bs).2) else if (M.append (nameB11 W.n) bs).2.syncs.1 ≠ 0 then ((M.append (nameB11 W.n) bs).2.syncs.1, W, (M.append (nameB11 W.n) bs).2.syncs.2) else nextQ (M.append (nameB11 W.n) bs).2.syncs.2 ⟨W.seg, W.n, foldsP W.s rs, W.dead⟩) := by rw [Hid, HP.out]; exact if_neg hrs
    obtain ⟨pb, cb, hqe⟩ := owns_shape hob
    simp only [Value.slice.injEq] at hqe
    obtain ⟨hq3, hq4, hq5⟩ := hqe
    have hL2 : Log11 w0 w2 lb d S (more8 (more8 G w w1) w1 w2) M ⟨W.seg, W.n, x, W.dead⟩ := HL1.out.grow hb2
    have hR2 : RowW w2 (more8 (more8 G w w1) w1 w2) r l := (HRW.out.stay (.of_below hb2) (.of_below hb2)).mono more_in
    have hX2 : HasX w2 (fun k => ¬ (more8 (more8 G w w1) w1 w2) k) (.slice q.p q.n q.c) bs := by
      obtain ⟨p', c', hv, a1, a2, a3⟩ := hob.has
      refine ⟨p', c', hv, a1, a2, fun h9 => ?_⟩
      obtain ⟨b', o', hp', hb', hc'⟩ := a3 h9
      refine ⟨b', o', hp', fun hn => hn (.inr ⟨?_, hb'⟩), hb', hc'⟩
      rcases hob.2 with ⟨hv2, h8⟩ | ⟨g, cap, cur, hv2, hB9, _⟩
      · omega
      · rw [hv] at hv2
        simp only [Value.slice.injEq] at hv2
        rw [hp'] at hv2
        obtain ⟨hv2, -⟩ := hv2
        cases hv2
        exact hB9
    have HGG : Hid (∀ k, (more8 (more8 G w w1) w1 w2) k → G k ∨ w.heap.size ≤ k) := fun k hk => by
      rcases hk with (hk | ⟨h9, _⟩) | ⟨h9, _⟩
      · exact .inl hk
      · exact .inr h9
      · have := HB1.out.size
        exact .inr (by omega)
    have HGl : Hid ((more8 (more8 G w w1) w1 w2) lb) := .inl (.inl HLog.out.gl)
    have HLg : Hid (∀ k, (more8 (more8 G w w1) w1 w2) k → k < w2.heap.size) := fun k hk => (hL2.own k hk).2
    generalize more8 (more8 G w w1) w1 w2 = G2 at *
    have hLS := LogS.of hL2
    have hd := hLS.below (on_drew (Below.refl w2.heap.size w2))
    have s0 : w2.drew.cell? ⟨lb, 0, none⟩ = some (.pointer (some ⟨d, 0, none⟩)) ∧ w2.drew.cell? ⟨lb, 8, none⟩ = some (.int .i64 W.n) := ⟨hd.cells.1, hd.cells.2.2.1⟩
    have hlb := hLS.lt
    have kn := nameP_any W.n ⟨by omega, by omega⟩ w2.drew (hd.gl11 HG0.out)
    have hsn : (nameB11 W.n).size ≤ maxLen := by have := nameB_size W.n; unfold maxLen; omega
    have KC : Hid (∀ w3, Below w2.drew.heap.size w2.drew w3 → Calls Tryz.prog 72 #[.pointer (some ⟨d, 0, none⟩), .string (nameB11 W.n), .slice q.p q.n q.c] w3 fun e w' => e = .returned (.int .i64 ((M.append (nameB11 W.n) bs).1 : Nat)) ∧ LogS w0 w2 w' lb d S G2 (M.append (nameB11 W.n) bs).2 ⟨W.seg, W.n, x, W.dead⟩ ∧ GKeep G2 w3 w') := fun w3 hb => (hd.below hb).append HO.out (by omega) hsn (hX2.gkeep ⟨hb.size, fun k hk => hb.block k (HLg.out k hk)⟩) (by omega)
    have K1 : Hid (∀ w3, Below w2.drew.heap.size w2.drew w3 → w3.cell? ⟨lb, 0, none⟩ = some (.pointer (some ⟨d, 0, none⟩)) ∧ w3.cell? ⟨lb, 8, none⟩ = some (.int .i64 W.n)) := fun w3 hb => ⟨(hd.below hb).cells.1, (hd.below hb).cells.2.2.1⟩
    have HOA : Hid ((M.append (nameB11 W.n) bs).2.OkN (c + 1)) := HO.out.append _ (isB_of8 hbB)
    have HR2 : Hid (RowW w2 G2 r l) := hR2
    clear kb hq1 hq2 HP hb2 hob hL2 hR2 hX2 hLS hd hsn HL1 HRW hq3 hq4 hq5
    generalize nameB11 W.n = nm at *
    generalize M.append nm bs = AP at *
    go_wp2_with fail
    go_region_held3 (fun w' => w'.cell? ⟨lb, 0, none⟩ = some (.pointer (some ⟨d, 0, none⟩)) ∧ w'.cell? ⟨lb, 8, none⟩ = some (.int .i64 W.n))
      (first | (with_reducible exact s0) | (with_reducible assumption))
      (first
        | (go_at_call 19; (with_reducible refine Calls.mono kn ?_); rintro _ w3 ⟨rfl, hb3⟩; have kc := KC.out w3 hb3; have e1 := K1.out w3 hb3)
        | (go_at_call 72; (with_reducible refine Calls.mono kc ?_); rintro _ w4 ⟨rfl, hL4, hk4⟩; have e2 : w4.cell? ⟨lb, 0, none⟩ = some (.pointer (some ⟨d, 0, none⟩)) ∧ w4.cell? ⟨lb, 8, none⟩ = some (.int .i64 W.n) := ⟨hL4.cells.1, hL4.cells.2.2.1⟩))
    have HL4 : Hid (LogS w0 w2 w4 lb d S G2 AP.2 ⟨W.seg, W.n, x, W.dead⟩) := hL4
    have HK4 : Hid (GKeep G2 w2 w4) := (show GKeep G2 w2 w3 from ⟨hb3.size, fun k hk => hb3.block k (HLg.out k hk)⟩).trans hk4
    have HU : Hid (∀ (wz : World) (Mz : DM) (Lz : LogV) (Wz : WM), LogS w0 w2 wz lb d S G2 Mz Lz → Lz.seg = Wz.seg → Lz.last = Wz.n → Lz.dead = Wz.dead → Lz.x.s = Wz.s → LogU w0 w wz lb d (fun k => S k ∨ G k) Mz Wz) := fun wz Mz Lz Wz hz z1 z2 z3 z4 => LogU.of_S2 hz z1 z2 z3 z4 HBw.out HGG.out HLog.out.gl
    have c0 := hL4.cells.1
    have hl4 := hL4.lt
    clear kn kc e1 e2 KC K1 s0 hb3 hL4 hk4 hlb
    obtain ⟨ae, AM⟩ := AP
    dsimp only at *
    by_cases hae : ae = 0
    case neg =>
      have HF : Hid (R = (ae, W, AM)) := by rw [Hid, HP2.out, if_pos hae]
      have hae' : ((ae : Int) != 0) = true := by simpa using hae
      clear HP2 c0
      go_wp2
      go_ret
      exact ⟨by rw [HF.out]; rfl, by rw [HF.out]; exact HU.out _ _ _ _ HL4.out rfl rfl rfl HXS.out⟩
    subst hae
    have HP3 : Hid (R = if AM.syncs.1 ≠ 0 then (AM.syncs.1, W, AM.syncs.2) else nextQ AM.syncs.2 ⟨W.seg, W.n, foldsP W.s rs, W.dead⟩) := by rw [Hid, HP2.out, if_neg (by simp)]
    have ks := HL4.out.sync HOA.out (by omega)
    have HOS : Hid (AM.syncs.2.OkN (c + 2)) := HOA.out.syncs
    clear HP2
    generalize AM.syncs = Y at *
    obtain ⟨se, SM'⟩ := Y
    dsimp only at *
    go_wp2_with fail
    refine ks.mono ?_
    rintro _ w5 ⟨rfl, hL5, hk5⟩
    have HL5 : Hid (LogS w0 w2 w5 lb d S G2 SM' ⟨W.seg, W.n, x, W.dead⟩) := hL5
    have HK5 : Hid (GKeep G2 w2 w5) := HK4.out.trans hk5
    clear ks c0 hL5 hk5 HL4 HK4 hl4
    by_cases hse : se = 0
    case neg =>
      have HF : Hid (R = (se, W, SM')) := by rw [Hid, HP3.out, if_pos hse]
      have hse' : ((se : Int) != 0) = true := by simpa using hse
      clear HP3
      go_wp2
      go_ret
      exact ⟨by rw [HF.out]; rfl, by rw [HF.out]; exact HU.out _ _ _ _ HL5.out rfl rfl rfl HXS.out⟩
    subst hse
    have HP4 : Hid (R = nextQ SM' ⟨W.seg, W.n, foldsP W.s rs, W.dead⟩) := by rw [Hid, HP3.out, if_neg (by simp)]
    clear HP3
    obtain ⟨S5, hL5, ht5, hS5⟩ := HL5.out.ex
    have HS5 : Hid (Turn (fun k => S k ∨ k = lb) w2 w5 ∧ ∀ k, S5 k → S k ∨ w2.heap.size ≤ k) := ⟨ht5, hS5⟩
    have HL6 : Hid (Log11 w0 w5 lb d S5 G2 SM' ⟨W.seg, W.n, x, W.dead⟩) := hL5
    have HR5 : Hid (RowW w5 G2 r l) := HR2.out.stay (.of_gkeep HK5.out) (.of_gkeep HK5.out)
    clear hL5 ht5 hS5 HL5 HR2
    go_wp2
    go_loopw [53] (fun s53 wr => ∃ (j : Nat) (G' : Nat → Prop) (x' : StaV), s53 = .int .i64 (j : Nat) ∧ j ≤ r.n ∧ Hid (Log11 w0 wr lb d S5 G' SM' ⟨W.seg, W.n, x', W.dead⟩) ∧ Hid (x'.s = foldsP W.s ((l.take j).map RecV.r)) ∧ Hid (x'.es.length ≤ 100000000 + j) ∧ Hid (RowW wr G2 r l) ∧ Hid ((∀ k, G2 k → G' k) ∧ (∀ k, G' k → G2 k ∨ w5.heap.size ≤ k) ∧ Turn G2 w5 wr)) (fun s53 _ => r.n - (intOf s53).toNat)
    case atStart => exact ⟨0, G2, x, rfl, Nat.zero_le _, HL6, HXS, hxl, HR5, fun _ h => h, fun _ h => .inl h, Turn.refl _ _⟩
    case round =>
      obtain ⟨j, G', x', rfl, hj, HLr, HXr, HXl, HRr, HGr⟩ := hrel
      by_cases hjn : j < r.n
      · obtain ⟨g, o, hp, hg, hld⟩ := HRr.out.has.ld hjn
        have hjl : j < l.length := by rw [HRr.out.has.n]; exact hjn
        have hej : l.getD j noRV ∈ l := getD_mem11 hjl
        have hRec := HRr.out.all _ hej
        have HM2 : Hid (foldsP W.s ((l.take (j + 1)).map RecV.r) = (pfold11 (foldsP W.s ((l.take j).map RecV.r)) (l.getD j noRV).r).1) := by
          rw [Hid, take_snoc11 hjl, List.map_append]
          exact folds_snoc _ _ _
        generalize l.getD j noRV = rv at *
        rw [hp] at *
        have hbE := heap_alloc_new wr (.cells #[.int .i64 0, .int .i64 0, .int .i64 0, .int .i64 0, .int .i64 0, .int .i64 0, .int .i64 0, .string ⟨#[]⟩, .string ⟨#[]⟩, .string ⟨#[]⟩, .string ⟨#[]⟩, .int .i64 0, .slice none 0 0, .slice none 0 0, .int .i64 0, .int .i64 0, .int .i64 0, .int .i64 0, .int .i64 0] 32)
        have hth := there_box hbE 0 19 (Nat.le_refl _)
        have hst := stW_arr rv hth
        have hbE2 := setW_box rv hbE rfl
        have hB2 : Below wr.heap.size wr ((wr.alloc (.cells #[.int .i64 0, .int .i64 0, .int .i64 0, .int .i64 0, .int .i64 0, .int .i64 0, .int .i64 0, .string ⟨#[]⟩, .string ⟨#[]⟩, .string ⟨#[]⟩, .string ⟨#[]⟩, .int .i64 0, .slice none 0 0, .slice none 0 0, .int .i64 0, .int .i64 0, .int .i64 0, .int .i64 0, .int .i64 0] 32)).setCells wr.heap.size 0 rv.arr.toList) := setCells_below (Nat.le_refl _) _ _ ((Below.refl _ _).alloc (Nat.le_refl _) _)
        have HBx : Hid (((wr.alloc (.cells #[.int .i64 0, .int .i64 0, .int .i64 0, .int .i64 0, .int .i64 0, .int .i64 0, .int .i64 0, .string ⟨#[]⟩, .string ⟨#[]⟩, .string ⟨#[]⟩, .string ⟨#[]⟩, .int .i64 0, .slice none 0 0, .slice none 0 0, .int .i64 0, .int .i64 0, .int .i64 0, .int .i64 0, .int .i64 0] 32)).setCells wr.heap.size 0 rv.arr.toList).heap[wr.heap.size]? = some (.cells rv.arr 32 (0, 0))) := hbE2
        have HB2' : Hid _ := hB2
        have HRec : Hid (RecG wr G2 rv) := hRec
        clear hbE hbE2 hB2 hej hRec
        go_upto_region 16 with fail
        clear hld hth hst
        generalize (wr.alloc (.cells #[.int .i64 0, .int .i64 0, .int .i64 0, .int .i64 0, .int .i64 0, .int .i64 0, .int .i64 0, .string ⟨#[]⟩, .string ⟨#[]⟩, .string ⟨#[]⟩, .string ⟨#[]⟩, .int .i64 0, .slice none 0 0, .slice none 0 0, .int .i64 0, .int .i64 0, .int .i64 0, .int .i64 0, .int .i64 0] 32)).setCells wr.heap.size 0 rv.arr.toList = W2 at *
        have hBd := HB2'.out.trans ((on_drew (Below.refl W2.heap.size W2)).mono HB2'.out.size)
        have hLd := HLr.out.below hBd
        have kf := foldP_any W2.drew lb 145 (logPre d ⟨W.seg, W.n, x', W.dead⟩) (logPost ⟨W.seg, W.n, x', W.dead⟩) x' G' rv (by decide) (by decide) hLd.box hLd.sta ((HRec.out.stay (.of_below hBd)).mono HGr.out.1) (fun k hk => (hLd.own k hk).2) (by have h8 := HXl.out; have h9 := hrn.out; omega)
        have hldd := ldW_box W2.drew _ _ _ _ HBx.out rfl
        have hlW2 := box_lt HBx.out
        have hlb2 : lb < W2.heap.size := hLd.box.lt
        have hz2 := HB2'.out.size
        have KF : Hid (∀ (r : Ending) (w' : World), Fold11 W2.drew lb 145 (logPre d ⟨W.seg, W.n, x', W.dead⟩) x' (logPost ⟨W.seg, W.n, x', W.dead⟩) G' rv r w' → (ldW (.pointer (some ⟨wr.heap.size, 0, none⟩))).run Tryz.prog w' = .ok (.agg rv.arr) w' ∧ r = .returned (.bool (pfold11 x'.s rv.r).2) ∧ ∃ y, Hid (Log11 w0 w' lb d S5 (more8 G' W2.drew w') SM' ⟨W.seg, W.n, y, W.dead⟩) ∧ Hid (y.s = (pfold11 x'.s rv.r).1) ∧ Hid (Turn G' W2.drew w' ∧ Stay G' 3 W2.drew w' ∧ Stay G' 32 W2.drew w')) := fun r w' hF => by
          obtain ⟨r1, y, r2, r3, r4, r5⟩ := hLd.folded hF
          refine ⟨ldW_box w' _ _ _ _ ((r4.block _ (box_lt HBx.out) fun hk => ?_).trans HBx.out) rfl, r1, y, r2, r3, r4, r5 _ (by decide) (by decide), r5 _ (by decide) (by decide)⟩
          have := (HLr.out.own _ hk).2
          omega
        have HBd : Hid (Below wr.heap.size wr W2.drew) := hBd
        clear hLd hBd
        rw [show (logPre d ⟨W.seg, W.n, x', W.dead⟩).length = 2 from rfl] at kf
        go_region_held3 (fun w' => (ldW (.pointer (some ⟨wr.heap.size, 0, none⟩))).run Tryz.prog w' = .ok (.agg rv.arr) w')
          (first | (with_reducible exact hldd) | (with_reducible assumption))
          (first | (go_at_call 91; (with_reducible refine Calls.mono kf ?_); intro e8 w8 hF8; obtain ⟨hld8, rfl, y, hy1, hy2, hy3⟩ := KF.out e8 w8 hF8))
        have HX8 : Hid (y.s = foldsP W.s ((l.take (j + 1)).map RecV.r)) := by rw [Hid, HM2.out, ← HXr.out]; exact hy2.out
        have HXl8 : Hid (y.es.length ≤ 100000000 + (j + 1)) := by
          have h1 := pfold_len x'.s rv.r
          rw [← hy2.out] at h1
          have e1 : y.s.es.length = y.es.length := List.length_map ..
          have e2 : x'.s.es.length = x'.es.length := List.length_map ..
          have h2 := HXl.out
          rw [Hid]
          omega
        have HR8 : Hid (RowW w8 G2 r l) := (HRr.out.stay (.of_below HBd.out) (.of_below HBd.out)).stay (hy3.out.2.1.mono HGr.out.1) (hy3.out.2.2.mono HGr.out.1)
        have HG8 : Hid ((∀ k, G2 k → (more8 G' W2.drew w8) k) ∧ (∀ k, (more8 G' W2.drew w8) k → G2 k ∨ w5.heap.size ≤ k) ∧ Turn G2 w5 w8) := by
          obtain ⟨g1, g2, g3⟩ := HGr.out
          have hzz := g3.size
          have hz9 : wr.heap.size ≤ W2.drew.heap.size := HBd.out.size
          refine ⟨fun k hk => .inl (g1 k hk), fun k hk => ?_, (g3.trans (Turn.of_below HBd.out (Nat.le_refl _))).wide hy3.out.1 fun k hk => ?_⟩
          · rcases hk with hk | ⟨h9, _⟩
            · exact g2 k hk
            · exact .inr (by omega)
          · rcases g2 k hk with h | h
            · exact .inl h
            · exact .inr h
        clear hld8 hF8 kf KF hldd
        go_wp2
        go_roundw
        case rel => exact ⟨j + 1, more8 G' W2.drew w8, y, by go_num, by omega, hy1, HX8, HXl8, HR8, HG8⟩
        case measure => simp only [intOf]; omega
      · obtain rfl : j = r.n := by omega
        have HX9 : Hid (x'.s = foldsP W.s rs) := by
          have := HXr.out
          rw [← HRr.out.has.n, List.take_length, HLR.out] at this
          exact this
        have kx := nextW_any (LogS.of HLr.out) HG0.out HOS.out (by omega) hn
        obtain ⟨q1, q2, q3, q4⟩ := next_q SM' ⟨W.seg, W.n, foldsP W.s rs, W.dead⟩ x' HX9.out
        dsimp only at q1 q2 q3 q4
        rw [q1, q2, q3] at kx
        have HQ4 : Hid _ := q4
        have HN : Hid (nextQ SM' ⟨W.seg, W.n, foldsP W.s rs, W.dead⟩ = R) := HP4.out.symm
        rw [HN.out] at kx
        have HQ5 : Hid (R.2.1.s = foldsP W.s rs) := by rw [Hid, ← HN.out]; exact q4
        clear q1 q2 q3 q4 HQ4 HN HP4
        go_wp2_with fail
        refine kx.mono ?_
        rintro _ w9 ⟨rfl, hL9⟩
        have HFin : Hid (LogU w0 w w9 lb d (fun k => S k ∨ G k) R.2.2 R.2.1) := by
          obtain ⟨S9, l1, l2, l3⟩ := hL9.ex
          obtain ⟨g1, g2, g3⟩ := HGr.out
          obtain ⟨t1, t2⟩ := HS5.out
          have z1 := HBw.out.size
          have z2 := t1.size
          have z3 := g3.size
          have hgl := HLog.out.gl
          refine ⟨S9, G', x', l1, by rw [HQ5.out]; exact HX9.out, ?_, fun k hk => ?_⟩
          · refine (((Turn.of_below HBw.out (Nat.le_refl _)).wide t1 fun k hk => ?_).wide g3 fun k hk => ?_).wide l2 fun k hk => ?_
            · exact .inl (hk.imp id fun e => by rw [e]; exact hgl)
            · exact (HGG.out k hk).imp .inr id
            · rcases hk with hk | hk
              · rcases t2 k hk with h | h
                · exact .inl (.inl h)
                · exact .inr (by omega)
              · exact .inl (.inr (by rw [hk]; exact hgl))
          · rcases hk with hk | hk
            · rcases l3 k hk with h | h
              · rcases t2 k h with h | h
                · exact .inl (.inl h)
                · exact .inr (by omega)
              · exact .inr (by omega)
            · rcases g2 k hk with h | h
              · exact (HGG.out k h).imp .inr id
              · exact .inr (by omega)
        clear kx hL9
        go_wp2
        go_ret
        exact ⟨rfl, HFin.out⟩
end Go.Proofs.YtkbbhllchombdaaGreatDoor
