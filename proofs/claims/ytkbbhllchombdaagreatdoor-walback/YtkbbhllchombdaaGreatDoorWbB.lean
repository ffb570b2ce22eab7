import Derived.Test.YtkbbhllchombdaaGreatDoorWbNTo
import Derived.Test.YtkbbhllchombdaaGreatDoorWaL
namespace Go.Proofs.YtkbbhllchombdaaGreatDoor
open Go.RowKit Go.Shelf
attribute [local go_sem ↓] ldE_exec stE_exec ldE_execI stE_execI ldE_run ldE_box stE_box ldC_exec stC_exec ldC_execI stC_execI ldC_run ldW_exec stW_exec ldW_execI stW_execI ldW_box stW_box ldR_exec stR_exec ldR_execI stR_execI ldT_exec stT_exec ldT_execI stT_execI ldT_box ldU_exec stU_exec ldU_execI stU_execI ldH_exec stH_exec ldH_execI stH_execI ldH_run ldH_box stH_box oc_int oc_bool oc_string oc_slice oc_pointer
theorem elemI11B : Elem8 Tryz.prog 24 3 1 8 := elem8 Tryz.underlying24 (z := .int .i64 0) (by kernel_rfl) rfl (by decide)

theorem recs_pre (G : List Rec11) (i : Nat) : (recsB11 (G.take i)).length ≤ (recsB11 G).length := by
  have e : recsB11 (G.take i ++ G.drop i) = recsB11 (G.take i) ++ recsB11 (G.drop i) := by unfold recsB11; rw [List.map_append, List.flatten_append]
  rw [List.take_append_drop] at e
  rw [e, List.length_append]
  omega
theorem recs_take11 {G : List Rec11} {i : Nat} (h : i < G.length) : recsB11 (G.take (i + 1)) = recsB11 (G.take i) ++ recB11 (G.getD i noR11) := by
  have e : G.take (i + 1) = G.take i ++ [G.getD i noR11] := by
    rw [List.take_add_one, List.getElem?_eq_getElem h, List.getD_eq_getElem?_getD, List.getElem?_eq_getElem h]
    rfl
  rw [e, recsB_snoc]
theorem getR_mem11 {G : List Rec11} {i : Nat} (h : i < G.length) : G.getD i noR11 ∈ G := by
  rw [List.getD_eq_getElem?_getD, List.getElem?_eq_getElem h]
  exact List.getElem_mem h
theorem map_at11 {l : List RecV} {G : List Rec11} (h : l.map RecV.r = G.map normR11) {i : Nat} (hi : i < l.length) : (l.getD i noRV).r = normR11 (G.getD i noR11) := by
  have hl := congrArg List.length h
  rw [List.length_map, List.length_map] at hl
  have := congrArg (fun m => m[i]?) h
  rw [List.getElem?_map, List.getElem?_map, List.getElem?_eq_getElem hi, List.getElem?_eq_getElem (by omega)] at this
  rw [List.getD_eq_getElem?_getD, List.getD_eq_getElem?_getD, List.getElem?_eq_getElem hi, List.getElem?_eq_getElem (by omega)]
  exact Option.some.inj this
theorem norm_few {r : Rec11} (h : FewF r.e.f ∧ FewC r.e.c) : FewF (normR11 r).e.f ∧ FewC (normR11 r).e.c := by
  have h0 : FewF noE10.f ∧ FewC noE10.c := ⟨⟨by decide, by decide⟩, ⟨by decide, by decide, by decide, by decide⟩⟩
  unfold normR11
  split
  · exact h
  · split
    · exact h0
    · exact h0
theorem recB_short (r : Rec11) : (recB11 r).length ≤ 1100000 := by
  rw [recB_frame]
  split
  · unfold frameF
    split
    · exact Nat.zero_le _
    · rw [frameB_length]; omega
  · exact Nat.zero_le _
theorem recB_isB (r : Rec11) : IsB (recB11 r) := by
  rw [recB_frame]
  split
  · unfold frameF
    split
    · exact IsB.nil
    · exact frameB_isB (IsB.append (zigB_isB _) (partR_isB _))
  · exact IsB.nil
theorem recsB_isB (g : List Rec11) : IsB (recsB11 g) := fun z hz => by
  unfold recsB11 at hz
  obtain ⟨a, ha, hz⟩ := List.mem_flatten.1 hz
  obtain ⟨r, -, rfl⟩ := List.mem_map.1 ha
  exact recB_isB r z hz

set_option maxRecDepth 100000 in
set_option maxHeartbeats 8000000 in
theorem walBack_of (s : Sl10) (l : List RecV) (cut : Int) (hcut : 0 ≤ cut ∧ cut ≤ 18446744073709551615) (w : World) (hl : HasW w s l) (hlen : s.n ≤ 140737488355328) (hT : Tab w) (hL : Lives11 w) :
    Calls Tryz.prog 5 #[.slice s.p s.n s.c, .int .u64 cut] w fun e w' => e = .returned (.bool true) ∧ Below w.heap.size w w' := by
  obtain ⟨i0, hi, hz0, hz1, hz2⟩ := info_parts info8c
  obtain ⟨p, n, c⟩ := s
  have HW : Hid (HasW w ⟨p, n, c⟩ l) := hl
  have HL : Hid (Lives11 w) := hL
  have HT : Hid (Tab w) := hT
  have hln : l.length = n := hl.n
  dsimp only at hlen
  clear hl hL hT
  dsimp only
  have hown0 : (w.alloc (.cells #[.int .i64 0] 3)).ownsRow w.heap.size 3 1 (.slice (some ⟨w.heap.size, 0, none⟩) 1 1) 1 [.int .i64 0] := ⟨by simp, .inr ⟨w.heap.size, 1, #[.int .i64 0], rfl, Nat.le_refl _, heap_alloc_new w _, Nat.le_refl _, by decide, by simp, by simp⟩⟩
  have hB0 : Below w.heap.size w (w.alloc (.cells #[.int .i64 0] 3)) := (Below.refl _ _).alloc (Nat.le_refl _) _
  go_enter Tryz.func5, Tryz.ntmps5
  go_wp2
  go_loopw [22, 5, 6, 7] (fun s22 s5 s6 s7 wr => ∃ (j N : Nat) (pb : Option Addr) (nb cb : Nat) (pe : Option Addr) (ne ce : Nat), s22 = .int .i64 (j : Nat) ∧ s5 = .int .i64 (N : Nat) ∧ s6 = .slice pb nb cb ∧ s7 = .slice pe ne ce ∧ j ≤ n ∧ N ≤ 300 ∧ j ≤ N ∧ (recsB11 (gd11 (l.take j))).length ≤ j * 1100000 ∧ Has wr (.slice pb nb cb) (recsB11 (gd11 (l.take j))) ∧ wr.ownsRow w.heap.size 3 1 (.slice pe ne ce) (ends11 (gd11 (l.take j))).length ((ends11 (gd11 (l.take j))).map (Value.int .i64)) ∧ Hid (∀ x ∈ l.take j, FewF x.e.f.f ∧ FewC x.e.c) ∧ Below w.heap.size w wr) (fun s22 _ _ _ _ => n - (intOf s22).toNat)
  case atStart => exact ⟨0, 0, none, 0, 0, _, _, _, rfl, rfl, rfl, rfl, Nat.zero_le _, Nat.zero_le _, Nat.le_refl _, Nat.zero_le _, Has.nil _, hown0, (fun x hx => by simp at hx), hB0⟩
  case round =>
    clear hown0 hB0
    obtain ⟨j, N, pb, nb, cb, pe, ne, ce, rfl, rfl, rfl, rfl, hj, hN, hjN, hgl, hb, he, HFew, hB⟩ := hrel
    by_cases hlt : j < n
    · obtain ⟨b, o, hp, hbl, hld⟩ := (HW.out.below hB).ld hlt
      dsimp only at hp
      have hFx := ((HW.out.below hB).all _ (getD_mem11 (show j < l.length by omega)))
      have HTk := take_snoc11 (show j < l.length by omega)
      have HG := gd_snoc (show j < l.length by omega)
      generalize l.getD j noRV = x at *
      subst hp
      have hbx := heap_alloc_new wr (.cells #[.int .i64 0, .int .i64 0, .int .i64 0, .int .i64 0, .int .i64 0, .int .i64 0, .int .i64 0, .string ⟨#[]⟩, .string ⟨#[]⟩, .string ⟨#[]⟩, .string ⟨#[]⟩, .int .i64 0, .slice none 0 0, .slice none 0 0, .int .i64 0, .int .i64 0, .int .i64 0, .int .i64 0, .int .i64 0] 32)
      have hth := there_box hbx 0 19 (Nat.le_refl _)
      have hst := stW_arr x hth
      have hb3 : Below wr.heap.size wr ((wr.alloc (.cells #[.int .i64 0, .int .i64 0, .int .i64 0, .int .i64 0, .int .i64 0, .int .i64 0, .int .i64 0, .string ⟨#[]⟩, .string ⟨#[]⟩, .string ⟨#[]⟩, .string ⟨#[]⟩, .int .i64 0, .slice none 0 0, .slice none 0 0, .int .i64 0, .int .i64 0, .int .i64 0, .int .i64 0, .int .i64 0] 32)).setCells wr.heap.size 0 x.arr.toList) := setCells_below (Nat.le_refl _) _ _ ((Below.refl _ _).alloc (Nat.le_refl _) _)
      have hbx3 := setCells_box hbx 0 x.arr.toList x.arr (Nat.le_refl _) (by simp [RecV.arr])
      have hldE := ldE_in hbx3
      have hld3 := ldW_box _ _ _ _ _ hbx3 rfl
      have hl3 := box_lt hbx3
      have hB3 := hB.trans (hb3.mono hB.size)
      have kw := weight_any x.e _ (hFx.e.below hb3)
      have HFx := hFx.below hb3
      have hb' := hb.below hb3 (Nat.le_refl _)
      have he' := row_below he hb3 (Nat.le_refl _)
      have hwb : weightE x.e.e ≤ 70368744177664 := by
        obtain ⟨s1, s2, s3, s4, -⟩ := hFx.e.c
        have s5 := hFx.e.f.lu
        have s6 := hFx.e.f.lv
        show 1 + (x.e.c.key.size + x.e.c.old.size + x.e.c.val.size + x.e.c.unt.size) / 20 + x.e.f.f.vs.length + x.e.f.f.ls.length ≤ _
        omega
      have HWt : Hid (weightE x.e.e = weightE x.e.e) := rfl
      have hw1 : 1 ≤ weightE x.e.e := by
        show 1 ≤ 1 + (x.e.c.key.size + x.e.c.old.size + x.e.c.val.size + x.e.c.unt.size) / 20 + x.e.f.f.vs.length + x.e.f.f.ls.length
        omega
      generalize hk : weightE x.e.e = k at *
      replace HWt : Hid (weightE x.e.e = k) := hk
      clear hb he hFx hbx hB hk
      go_upto_region 8 with (go_at_call 8; refine kw.mono ?_; rintro _ w4 ⟨rfl, hb4⟩)
      have hB4 := hB3.trans (hb4.mono hB3.size)
      have hbx4 := box_below hbx3 hb4
      have hb4' := hb'.below hb4 (Nat.le_refl _)
      have he4 := row_below he' hb4 (Nat.le_refl _)
      have HF4 := HFx.below hb4
      clear kw hldE hld3 hl3 hb' he' HFx hbx3 hst hth hld hb3 hb4 hB3
      by_cases h3 : 300 < N + k
      · have kl := HL.out w4 hB4
        clear HG HTk HFew
        have h3' : (300 : Int) < (N : Int) + (k : Int) := by omega
        go_wp2_with (go_at_call 9; refine kl.mono ?_; rintro _ w5 ⟨rfl, hb5⟩)
        go_ret
        exact ⟨rfl, hB4.trans (hb5.mono hB4.size)⟩
      have hfew := weight_few (x := x.e.e) (n := 300) (by rw [HWt.out]; omega) (by decide)
      have kb := bytesR_any w4 (HT.out.below hB4 (Nat.le_refl _)) x HF4 hfew.1 hfew.2
      have HFew1 : Hid (∀ y ∈ l.take (j + 1), FewF y.e.f.f ∧ FewC y.e.c) := fun y hy => by
        rw [HTk] at hy
        rcases List.mem_append.1 hy with hy | hy
        · exact HFew.out y hy
        · rw [List.mem_singleton.1 hy]; exact hfew
      have hlr : (recB11 x.r).length ≤ 1100000 := by
        rw [recB_frame]
        split
        · unfold frameF
          split
          · exact Nat.zero_le _
          · rw [frameB_length]; omega
        · exact Nat.zero_le _
      have h3' : (N : Int) + (k : Int) ≤ 300 := by omega
      have hld4 := ldW_box _ _ _ _ _ hbx4 rfl
      have hl4 := box_lt hbx4
      have HGd : Hid (gd11 (l.take (j + 1)) = if recB11 x.r = [] then gd11 (l.take j) else gd11 (l.take j) ++ [x.r]) := HG
      have HRs : Hid (recsB11 (gd11 (l.take j) ++ [x.r]) = recsB11 (gd11 (l.take j)) ++ recB11 x.r) := recsB_snoc _ _
      clear HFew HTk HF4 hfew hbx4 HG
      generalize recB11 x.r = rb at *
      generalize gd11 (l.take j) = g at *
      clear HW HL HT
      go_upto_region 11 with (go_at_call 17; refine kb.mono ?_; rintro _ w5 ⟨v5, rfl, hv5, hb5⟩)
      have hB5 := hB4.trans (hb5.mono hB4.size)
      have hb5' := hb4'.below hb5 (Nat.le_refl _)
      have he5 := row_below he4 hb5 (Nat.le_refl _)
      obtain ⟨p5, c5, rfl, -⟩ := id hv5
      clear kb hld4 hl4 hb4' he4
      by_cases hem : rb = []
      · have HG2 : Hid (gd11 (l.take (j + 1)) = g) := by rw [Hid, HGd.out, if_pos hem]
        rw [hem] at hv5 ⊢
        clear HGd
        go_wp2
        go_roundw
        case rel => exact ⟨j + 1, N + k, pb, nb, cb, pe, ne, ce, by go_num, by go_num, rfl, rfl, by omega, by omega, by omega, by rw [HG2.out]; exact Nat.le_trans hgl (Nat.mul_le_mul_right _ (Nat.le_succ _)), by rw [HG2.out]; exact hb5', by rw [HG2.out]; exact he5, HFew1, hB5⟩
        case measure => simp only [intOf]; omega
      have HG2 : Hid (gd11 (l.take (j + 1)) = g ++ [x.r]) := by rw [Hid, HGd.out, if_neg hem]
      have hpos : 0 < rb.length := List.length_pos_iff.2 hem
      have hA : Below w5.heap.size w5 (w5.alloc (.cells #[] 5)) := (Below.refl _ _).alloc (Nat.le_refl _) _
      have hE0 : Owns (w5.alloc (.cells #[] 5)) w5.heap.size 5 (.slice (some ⟨w5.heap.size, 0, none⟩) 0 0) [] := row_none9 w5 w5 5 1 (Nat.le_refl _)
      have hbA := hb5'.below hA (Nat.le_refl _)
      have hel : (ends11 g).length ≤ 1000 := by
        rw [ends_len]
        have h1 := congrArg List.length HG2.out
        rw [List.length_append, List.length_singleton] at h1
        have h2 : (gd11 (l.take (j + 1))).length ≤ j + 1 := by
          unfold gd11
          refine Nat.le_trans (List.length_filter_le _ _) ?_
          rw [List.length_map, List.length_take]; omega
        omega
      have HR2 : Hid (recsB11 (g ++ [x.r]) = recsB11 g ++ rb) := HRs.out
      have hgj : (recsB11 g).length ≤ 330000000 := by
        have : j * 1100000 ≤ 300 * 1100000 := Nat.mul_le_mul_right _ (by omega)
        omega
      have HGj : Hid ((recsB11 g).length ≤ j * 1100000) := hgl
      generalize hG : recsB11 g = gb at *
      have HGb : Hid (recsB11 g = gb) := hG
      have HE5 : Hid (w5.ownsRow w.heap.size 3 1 (.slice pe ne ce) (ends11 g).length ((ends11 g).map (Value.int .i64))) := he5
      generalize hEL : ends11 g = el at *
      have HEl : Hid (ends11 g = el) := hEL
      obtain ⟨L7, hL7⟩ : ∃ L, (gb ++ rb).length = L := ⟨_, rfl⟩
      have HL7 : Hid ((gb ++ rb).length = L7) := hL7
      have hL8 : L7 ≤ 400000000 := by rw [← hL7, List.length_append]; omega
      clear HGd HRs hem hG hEL hb5' he5 hgl hL7
      go_wp2_with (first
        | (at_builtin; refine ap_slice _ rfl (.tmp 39) (.tmp 40) 33 rfl w5.heap.size 5 i0 Tryz.underlying33 hi hz0 hz1 hz2 _ [] gb rfl (by exact hbA) (by exact hE0) (by simp) (by omega) (by simp) ?_; intro v6 w6 ho6 hb6; have hA6 := hA.trans hb6; have hx6 := hv5.below hA6 (Nat.le_refl _))
        | (at_builtin; refine ap_slice _ rfl (.tmp 41) (.tmp 42) 33 rfl w5.heap.size 5 i0 Tryz.underlying33 hi hz0 hz1 hz2 _ ([] ++ gb) rb rfl (by exact hx6) (by exact ho6) (by rw [List.nil_append]; omega) (by omega) (by exact hA6.size) ?_; intro v7 w7 ho7 hb7; rw [List.nil_append] at ho7; have hA7 := hA6.trans hb7; obtain ⟨p7, c7, hv7, -⟩ := id ho7.has; rw [HL7.out] at hv7; subst hv7; have he7 := row_below HE5.out hA7 (Nat.le_refl _); have heA := World.ownsRow.alloc he7 (.cells #[.int .i64 (L7 : Nat)] 3); have ho7A := World.ownsRow.alloc ho7 (.cells #[.int .i64 (L7 : Nat)] 3); have hnR : HasR (w7.alloc (.cells #[.int .i64 (L7 : Nat)] 3)) 1 (.slice (some ⟨w7.heap.size, 0, none⟩) 1 1) 1 [.int .i64 (L7 : Nat)] := hasR_of_owns (B := w7.heap.size) (e := 3) ⟨by simp, .inr ⟨w7.heap.size, 1, #[.int .i64 (L7 : Nat)], rfl, Nat.le_refl _, heap_alloc_new w7 _, Nat.le_refl _, by decide, by simp, by simp⟩⟩; have hszA : w.heap.size ≤ (w7.alloc (.cells #[.int .i64 (L7 : Nat)] 3)).heap.size := by (have := hB5.size; have := hA7.size; simp; omega))
        | (at_builtin; refine ap_row elemI11B _ rfl _ _ rfl w.heap.size (.slice pe ne ce) _ el.length 1 (el.map (Value.int .i64)) [.int .i64 (L7 : Nat)] rfl rfl hnR (by simp [Value.oneCell']) heA (by omega) (by omega) hszA ?_; intro v8 w8 ho8 hg8 _; obtain ⟨p8, n8, c8, rfl⟩ := row_shape11 ho8))
      have ho9 := World.ownsRow.kept ho7A hg8 (rows_apart ho7A heA (by decide))
      have hB8 : Below w.heap.size w w8 := (hB5.trans ((hA7.mono hB5.size).trans ((Below.refl _ w7).alloc (by have := hB5.size; have := hA7.size; omega) _))).grown hg8 hszA fun k hk => (World.ownsRow.lt he7 k hk).1
      go_roundw
      case rel =>
        refine ⟨j + 1, N + k, p7, L7, c7, p8, n8, c8, by go_num, by go_num, rfl, rfl, by omega, by omega, by omega, ?_, ?_, ?_, HFew1, hB8⟩
        · rw [HG2.out, HR2.out, List.length_append]
          have := HGj.out
          omega
        · rw [HG2.out, HR2.out]
          exact Owns.has ho9
        · rw [HG2.out, ends_snoc, HEl.out, HR2.out, HL7.out, List.length_append, List.map_append]
          exact ho8
      case measure => simp only [intOf]; omega
    · obtain rfl : j = n := by omega
      have hT0 : l.take j = l := List.take_of_length_le (by omega)
      rw [hT0] at hb he HFew hgl
      have HSh : Hid (∀ r ∈ gd11 l, ShortR11 r ∧ recB11 r ≠ []) := fun r hr => by
        obtain ⟨hr1, hr2⟩ := List.mem_filter.1 hr
        obtain ⟨y, hy, rfl⟩ := List.mem_map.1 hr1
        exact ⟨short11 (HW.out.all y hy) (HFew.out y hy).1 (HFew.out y hy).2, of_decide_eq_true hr2⟩
      have HFg : Hid (∀ r ∈ gd11 l, FewF r.e.f ∧ FewC r.e.c) := fun r hr => by
        obtain ⟨hr1, -⟩ := List.mem_filter.1 hr
        obtain ⟨y, hy, rfl⟩ := List.mem_map.1 hr1
        exact HFew.out y hy
      have hBg : IsB (recsB11 (gd11 l)) := recsB_isB _
      have hgj : (recsB11 (gd11 l)).length ≤ 330000000 := by
        have : j * 1100000 ≤ 300 * 1100000 := Nat.mul_le_mul_right _ (by omega)
        omega
      have hglen : (gd11 l).length ≤ 300 := by
        unfold gd11
        refine Nat.le_trans (List.length_filter_le _ _) ?_
        rw [List.length_map]
        omega
      have hel := ends_len (gd11 l)
      have HS1 : Hid (scan11 (recsB11 (gd11 l)) = ((gd11 l).map normR11, (recsB11 (gd11 l)).length)) := scan_all _ HSh.out
      have HSc : Hid (∀ m, ∃ J, J ≤ (gd11 l).length ∧ scan11 ((recsB11 (gd11 l)).take m) = (((gd11 l).take J).map normR11, (recsB11 ((gd11 l).take J)).length) ∧ (recsB11 ((gd11 l).take J)).length ≤ m ∧ (J < (gd11 l).length → m < (recsB11 ((gd11 l).take (J + 1))).length)) := fun m => scan_cut _ HSh.out m
      have HEat : Hid (∀ J, J ≤ (gd11 l).length → (ends11 (gd11 l)).getD J 0 = ((recsB11 ((gd11 l).take J)).length : Int)) := fun J h => ends_at _ h
      have HBk : Hid (∀ r ∈ gd11 l, recB11 (normR11 r) = recB11 r) := fun r hr => recB_norm r (recB_good (HSh.out r hr).2).1
      have HGdef : Hid (recsB11 (gd11 l) = recsB11 (gd11 l)) := rfl
      generalize gd11 l = G at *
      have HT2 := HT.out.below hB (Nat.le_refl _)
      have k1 := scan11_any _ _ wr HT2 hb hBg (by omega)
      obtain ⟨hnb, hnc, -⟩ := hb.len
      obtain ⟨gb, hgb⟩ : ∃ gb, recsB11 G = gb := ⟨_, rfl⟩
      rw [hgb] at hb hBg hgj k1 hnb HS1 HSc
      have HGb : Hid (recsB11 G = gb) := hgb
      rw [HS1.out] at k1
      dsimp only at k1
      have HB1 : Hid (IsB gb) := hBg
      have HV : Hid (Has wr (.slice pb nb cb) gb) := hb
      have HE : Hid (wr.ownsRow w.heap.size 3 1 (.slice pe ne ce) (ends11 G).length ((ends11 G).map (Value.int .i64))) := he
      obtain ⟨a, ha⟩ : ∃ a : Nat, cut % ((nb : Int) + 1) = (a : Int) := ⟨(cut % ((nb : Int) + 1)).toNat, by have := Int.emod_nonneg cut (show (nb : Int) + 1 ≠ 0 by omega); omega⟩
      have han : a ≤ nb := by have := Int.emod_lt_of_pos cut (show (0 : Int) < (nb : Int) + 1 by omega); omega
      have hac : a ≤ cb := by omega
      have hnn : nb ≤ 330000000 := by omega
      have hcv : ((nb : Int) + 1) % 18446744073709551616 = (nb : Int) + 1 := by omega
      have hnz : ((nb : Int) + 1 == 0) = false := by rw [beq_eq_false_iff_ne]; omega
      clear HFew hT0 hgb hb hBg he HS1 hgl HT2 HGdef hel
      go_upto_region 16 with (go_at_call 10; refine k1.mono ?_; rintro _ w1 ⟨p1, n1, c1, l1, rfl, hr1, hm1, hb1⟩)
      clear k1
      go_upto_region 17 with fail
      have hB1' := hB.trans (hb1.mono hB.size)
      have hv1 := (HV.out.below hb1 (Nat.le_refl _)).takeN a (by omega)
      have hBt : IsB (gb.take a) := fun z hz => HB1.out z (List.mem_of_mem_take hz)
      have k2 := scan11_any _ _ w1 (HT.out.below hB1' (Nat.le_refl _)) hv1 hBt (by rw [List.length_take]; omega)
      obtain ⟨J, hJ, hsc, hle, hgt⟩ := HSc.out a
      rw [hsc] at k2
      dsimp only at k2
      have HGt : Hid (J < G.length → a < (recsB11 (G.take (J + 1))).length) := hgt
      have he1 := HEat.out J hJ
      have HE1 : Hid (∀ K, K ≤ G.length → (ends11 G).getD K 0 = ((recsB11 (G.take K)).length : Int)) := HEat.out
      obtain ⟨m, hm⟩ : ∃ m, (recsB11 (G.take J)).length = m := ⟨_, rfl⟩
      rw [hm] at k2 he1 hle
      have HRow1 : Hid (RowR 32 w1 wr.heap.size (.slice p1 n1 c1) l1) := hr1
      have HLn : Hid (n1 = G.length) := by
        show n1 = G.length
        have h1 := hr1.has.n
        have h2 := congrArg List.length hm1
        rw [List.length_map, List.length_map] at h2
        dsimp only at h1
        omega
      have HM1 : Hid (l1.map RecV.r = G.map normR11) := hm1
      clear hr1 hm1 hv1 hBt hsc hgt HSc HEat hm
      go_upto_region 18 with (go_at_call 10; refine k2.mono ?_; rintro _ w2 ⟨p2, n2, c2, l2, rfl, hr2, hm2, hb2⟩)
      have hln2 : n2 = J := by
        have h1 := hr2.has.n
        have h2 := congrArg List.length hm2
        rw [List.length_map, List.length_map, List.length_take] at h2
        dsimp only at h1
        omega
      have hB2 := hB1'.trans (hb2.mono hB1'.size)
      have he2 : OwnsI w2 w.heap.size (.slice pe ne ce) (ends11 G) := row_below (row_below HE.out hb1 (Nat.le_refl _)) hb2 (Nat.le_refl _)
      have hI2 := he2.has
      obtain ⟨hne, hnec, -⟩ := hI2.len
      rw [ends_len] at hne
      obtain ⟨be, oe, rfl, hbe, hce⟩ := hI2.at (show J < ne by omega)
      rw [he1] at hce
      have HI2 : Hid (HasI w2 (.slice (some ⟨be, oe, none⟩) ne ce) (ends11 G)) := hI2
      have HW1 : Hid (HasW w2 ⟨p1, n1, c1⟩ l1) := (HRow1.out.below hb2).has
      have HV2 : Hid (Has w2 (.slice pb nb cb) gb) := (HV.out.below hb1 (Nat.le_refl _)).below hb2 (Nat.le_refl _)
      subst hln2
      have HGl : Hid (G.length = n1) := HLn.out.symm
      rw [← HLn.out] at hJ hglen hne HGt HE1
      clear k2 hr2 hm2 hb2 hb1 he2 hI2 he1 HE HRow1 HV HLn hB hB1' HSh
      have e1 : ((n1 : Int) != (ne : Int) - 1) = false := by rw [bne_eq_false_iff_eq]; omega
      have e2 : ¬ ((n1 : Int) < (n2 : Int)) := by omega
      have e3 : ¬ ((a : Int) < (m : Int)) := by omega
      go_upto_region 20 with fail
      have HPre : Hid (∀ i, (recsB11 (G.take i)).length ≤ 330000000) := fun i => by
        refine Nat.le_trans (recs_pre G i) ?_
        rw [HGb.out]
        omega
      have HZ2 : Hid (OwnsI w2 w.heap.size (.slice (some ⟨be, oe, none⟩) ne ce) (ends11 G) ∨ True) := .inr trivial
      clear HZ2 hce e1 e2 e3 hcv hnz ha hac
      go_wp2
      go_loopw [104, 16] (fun s104 s16 wq => ∃ (i : Nat) (pk : Option Addr) (nk ck : Nat), s104 = .int .i64 (i : Nat) ∧ s16 = .slice pk nk ck ∧ i ≤ n1 ∧ Owns wq w2.heap.size 5 (.slice pk nk ck) (recsB11 (G.take i)) ∧ Below w2.heap.size w2 wq) (fun s104 _ _ => n1 - (intOf s104).toNat)
      case atStart => exact ⟨0, none, 0, 0, rfl, rfl, Nat.zero_le _, Owns.nil _ _ _, Below.refl _ _⟩
      case round =>
        obtain ⟨i, pk, nk, ck, rfl, rfl, hi1, hok, hbq⟩ := hrel
        by_cases hlt2 : i < n1
        · obtain ⟨b3, o3, hp3, hbl3, hld⟩ := (HW1.out.below hbq).ld hlt2
          dsimp only at hp3
          have hl1 : l1.length = n1 := HW1.out.n
          have hFx := (HW1.out.below hbq).all _ (getD_mem11 (show i < l1.length by omega))
          have hxr := map_at11 HM1.out (show i < l1.length by omega)
          have hrm : G.getD i noR11 ∈ G := getR_mem11 (by rw [HGl.out]; exact hlt2)
          have hbk := HBk.out _ hrm
          have hfg := HFg.out _ hrm
          have HTk : Hid (recsB11 (G.take (i + 1)) = recsB11 (G.take i) ++ recB11 (G.getD i noR11)) := recs_take11 (by rw [HGl.out]; exact hlt2)
          generalize l1.getD i noRV = x at *
          have hfx : FewF x.e.f.f ∧ FewC x.e.c := by
            have h1 : x.r.e = (normR11 (G.getD i noR11)).e := by rw [hxr]
            have h2 : x.r.e = x.e.e := rfl
            have h3 := norm_few (r := G.getD i noR11) hfg
            rw [← h1, h2] at h3
            exact h3
          rw [← hxr] at hbk
          rw [← hbk] at HTk
          subst hp3
          have hbx := heap_alloc_new wr (.cells #[.int .i64 0, .int .i64 0, .int .i64 0, .int .i64 0, .int .i64 0, .int .i64 0, .int .i64 0, .string ⟨#[]⟩, .string ⟨#[]⟩, .string ⟨#[]⟩, .string ⟨#[]⟩, .int .i64 0, .slice none 0 0, .slice none 0 0, .int .i64 0, .int .i64 0, .int .i64 0, .int .i64 0, .int .i64 0] 32)
          have hth := there_box hbx 0 19 (Nat.le_refl _)
          have hst := stW_arr x hth
          have hb3 : Below wr.heap.size wr ((wr.alloc (.cells #[.int .i64 0, .int .i64 0, .int .i64 0, .int .i64 0, .int .i64 0, .int .i64 0, .int .i64 0, .string ⟨#[]⟩, .string ⟨#[]⟩, .string ⟨#[]⟩, .string ⟨#[]⟩, .int .i64 0, .slice none 0 0, .slice none 0 0, .int .i64 0, .int .i64 0, .int .i64 0, .int .i64 0, .int .i64 0] 32)).setCells wr.heap.size 0 x.arr.toList) := setCells_below (Nat.le_refl _) _ _ ((Below.refl _ _).alloc (Nat.le_refl _) _)
          have hbx3 := setCells_box hbx 0 x.arr.toList x.arr (Nat.le_refl _) (by simp [RecV.arr])
          have hld3 := ldW_box _ _ _ _ _ hbx3 rfl
          have hl3 := box_lt hbx3
          have kb := bytesR_any _ (HT.out.below (hB2.trans ((hbq.trans (hb3.mono hbq.size)).mono hB2.size)) (Nat.le_refl _)) x (hFx.below hb3) hfx.1 hfx.2
          have hbq3 := hbq.trans (hb3.mono hbq.size)
          have hok3 := hok.below hb3 (Nat.le_refl _)
          have hlr : (recB11 x.r).length ≤ 1100000 := recB_short _
          have hlp := HPre.out i
          clear hFx hfx hbk hfg hrm hxr hbx hb3 hok hbq
          generalize recB11 x.r = rb at *
          generalize recsB11 (G.take i) = gi at *
          go_upto_region 25 with (first
            | (go_at_call 17; refine kb.mono ?_; rintro _ w5 ⟨v5, rfl, hv5, hb5⟩; have hok5 := hok3.below hb5 (Nat.le_refl _); have hbq5 := hbq3.trans (hb5.mono hbq3.size))
            | (at_builtin; refine ap_slice _ rfl (.tmp 108) (.tmp 110) 33 rfl w2.heap.size 5 i0 Tryz.underlying33 hi hz0 hz1 hz2 _ gi rb rfl (by exact hv5) (by exact hok5) (by omega) (by omega) (by exact hbq5.size) ?_; intro v6 w6 ho6 hb6; obtain ⟨p6, c6, rfl, -⟩ := id ho6.has))
          have hB6 := hbq5.trans hb6
          go_wp2
          go_roundw
          case rel => exact ⟨i + 1, p6, _, c6, by go_num, rfl, by omega, by rw [HTk.out]; rw [List.length_append] at ho6; exact ho6, hB6⟩
          case measure => simp only [intOf]; omega
        · obtain rfl : i = n1 := by omega
          have hTG : G.take i = G := List.take_of_length_le (by rw [HGl.out]; exact Nat.le_refl _)
          rw [hTG, HGb.out] at hok
          have hV3 := HV2.out.below hbq (Nat.le_refl _)
          have hB8 : isB8 gb := fun z hz => by have := HB1.out z hz; omega
          have ks := same8 _ _ gb gb wr hok.has hV3 hB8 hB8
          have hI3 := HI2.out.below hbq (Nat.le_refl _)
          have hBq := hB2.trans (hbq.mono hB2.size)
          have kl := HL.out wr hBq
          rw [show (gb == gb) = true from beq_self_eq_true gb] at ks
          clear hTG hV3 hB8 hok HW1 HV2 HPre HT HL HB1 HBk HFg
          by_cases hJn : n2 = i
          · have e1 : ((n2 : Int) == (i : Int)) = true := by rw [beq_iff_eq]; omega
            clear hI3 HI2
            go_wp2_with (first
              | (go_at_call 16; refine same_mono ks ?_)
              | (go_at_call 9; refine kl.mono ?_; rintro _ w9 ⟨rfl, hb9⟩))
            go_ret
            exact ⟨rfl, hBq.trans (hb9.mono hBq.size)⟩
          · have e1 : ((n2 : Int) == (i : Int)) = false := by rw [beq_eq_false_iff_ne]; omega
            obtain ⟨b9, o9, hp9, hb9', hc9⟩ := hI3.at (show n2 + 1 < ne by omega)
            rw [HE1.out (n2 + 1) (by omega)] at hc9
            have hgt := HGt.out (by omega)
            generalize (recsB11 (G.take (n2 + 1))).length = m9 at *
            simp only [Option.some.injEq, Addr.mk.injEq] at hp9
            obtain ⟨rfl, rfl, -⟩ := hp9
            have e2 : (a : Int) < (m9 : Int) := by omega
            have e3 : n2 + 1 < ne := by omega
            clear hI3 HI2 HE1
            go_wp2_with (first
              | (go_at_call 16; refine same_mono ks ?_)
              | (go_at_call 9; refine kl.mono ?_; rintro _ w9 ⟨rfl, hb9⟩))
            go_ret
            exact ⟨rfl, hBq.trans (hb9.mono hBq.size)⟩
end Go.Proofs.YtkbbhllchombdaaGreatDoor
