import Derived.Test.YthlelcmifolnfaaGreatDoorKj6To
import Derived.Deep.DeepCutAuto
import Derived.Test.YthlelcmifolnfaaGreatDoorRfSTo
import Derived.Test.YthlelcmifolnfaaGreatDoorDs4To
import Derived.Test.YthlelcmifolnfaaGreatDoorDs0To
namespace Go.Proofs.YthlelcmifolnfaaGreatDoor
open Go.RowKit Go.Shelf Go.Maps
attribute [local go_sem ↓] ldS_exec stS_exec ldS_execI stS_execI ldS_run ldS_box oc_int oc_bool oc_string oc_slice oc_pointer
attribute [local go_sem ↓] ldK_exec ldK_execI stK_exec stK_execI
theorem keepA12 {w0 wB w : World} {d r b i : Nat} {M N : DM} {a : ActV12} {v : Value} (h : Duo8 w0 wB w (fun k => k = b) d r M N) (ha : ActAt wB b a) (hv : a.arr[i]? = some v) : w.cell? ⟨b, i, none⟩ = some v := (box_cell (h.box12 rfl ha) i).trans hv
theorem keepS12 {w0 wB w : World} {d r b : Nat} {M N : DM} {a : ActV12} (h : Duo8 w0 wB w (fun k => k = b) d r M N) (ha : ActAt wB b a) : (ldS (.pointer (some ⟨b, 1, none⟩))).run Tryz.prog w = .ok (.agg a.s.arr) w := ldS_in12 (h.box12 rfl ha)

set_option maxRecDepth 100000 in
set_option maxHeartbeats 8000000 in
theorem snapActs_of (z : Int) (s : Sl10) (xs : List ActV12) (W : World) (hz : 0 ≤ z ∧ z ≤ 18446744073709551615) (hx : HasA12 W s xs) (hn : s.n ≤ 140737488355328) (gl : Gl11 W) : Calls Tryz.prog 4 #[.int .u64 z, .slice s.p s.n s.c] W (TrE W) := by
  have HX : Hid (HasA12 W s xs) := hx
  have HG : Hid (Gl11 W) := gl
  have HL : Hid (∀ V, Below W.heap.size W V → Calls Tryz.prog 6 #[] V fun e w' => e = .returned (.bool true) ∧ Below V.heap.size V w') := livesS_all gl
  have HXl : Hid (xs.length = s.n) := hx.n
  have hsc := hx.c
  clear hx gl
  go_enter Tryz.func4, Tryz.ntmps4
  go_wp2
  go_loopw [5, 22] (fun s5 s22 wr => ∃ j t : Nat, s5 = .int .i64 (t : Nat) ∧ s22 = .int .i64 (j : Nat) ∧ j ≤ s.n ∧ t ≤ 600 ∧ Hid (t = wts12 (xs.take j)) ∧ Below W.heap.size W wr) (fun _ s22 _ => s.n - (intOf s22).toNat)
  case atStart => exact ⟨0, 0, rfl, rfl, Nat.zero_le _, Nat.zero_le _, rfl, Below.refl _ _⟩
  case round =>
    obtain ⟨j, t, rfl, rfl, hj, ht, HT, hb⟩ := hrel
    have HB : Hid (Below W.heap.size W wr) := hb
    by_cases hjn : j < s.n
    · obtain ⟨b, o, hp, hbl, hld⟩ := (HX.out.below hb).ld hjn
      have hjx : j < xs.length := by rw [HXl.out]; exact hjn
      have HTn : Hid (wts12 (xs.take (j + 1)) = t + wt12 (xs.getD j noAV12)) := by rw [Hid, HT.out]; exact wts_snoc12 hjx
      have hfit := HX.out.all _ (getA_mem12 hjx)
      generalize xs.getD j noAV12 = a at *
      obtain ⟨w6, hw6, hb6, hA6⟩ := layK12 wr a
      have hst := stK_arr a (there_box (heap_alloc_new wr (.cells #[.int .i64 0, .int .i64 0, .int .i64 0, .slice none 0 0, .slice none 0 0, .slice none 0 0, .int .i64 0, .int .i64 0, .string ⟨#[]⟩, .slice none 0 0] 48)) 0 10 (Nat.le_refl _))
      rw [hw6] at hst
      have d3 : w6.cell? ⟨wr.heap.size, 3, none⟩ = some (.slice a.s.f.u.p a.s.f.u.n a.s.f.u.c) := box_cell hA6 3
      have d4 : w6.cell? ⟨wr.heap.size, 4, none⟩ = some (.slice a.s.f.v.p a.s.f.v.n a.s.f.v.c) := box_cell hA6 4
      have d5 : w6.cell? ⟨wr.heap.size, 5, none⟩ = some (.slice a.s.w.p a.s.w.n a.s.w.c) := box_cell hA6 5
      have d9 : w6.cell? ⟨wr.heap.size, 9, none⟩ = some (.slice a.w.p a.w.n a.w.c) := box_cell hA6 9
      have lA := box_lt hA6
      have n3 := hfit.s.f.u.len
      have n4 := hfit.s.f.v.len
      have n5 := hfit.s.w.len
      have n9 := hfit.w.len
      have HB6 : Hid (Below W.heap.size W w6) := hb.trans (hb6.mono hb.size)
      have HWt : Hid (wt12 a = 1 + (a.s.w.n + a.w.n) / 100 + a.s.f.u.n + a.s.f.v.n) := rfl
      have l3 := hfit.s.f.lu
      have l4 := hfit.s.f.lv
      have l5 := hfit.s.l
      have l9 := hfit.l
      rw [n3.1] at l3
      rw [n4.1] at l4
      rw [n5.1] at l5
      rw [n9.1] at l9
      clear n3 n4 n5 n9 hb hb6 hA6 hfit
      generalize a.s.w.n = U at *
      generalize a.w.n = V at *
      generalize a.s.f.u.n = P at *
      generalize a.s.f.v.n = Q at *
      generalize wt12 a = wa at *
      obtain ⟨q, hq0⟩ : ∃ q : Nat, q = (U + V) / 100 := ⟨_, rfl⟩
      have hq : ((U : Int) + (V : Int)).tdiv 100 = (q : Int) := by rw [Int.tdiv_eq_ediv_of_nonneg (by omega)]; omega
      have hqb : q ≤ 2814749767025 := by omega
      rw [← hq0] at HWt
      clear hq0
      rw [hp] at *
      by_cases h6 : 600 < t + (1 + q + P + Q)
      · have h6' : (600 : Int) < (t : Int) + (1 + (q : Int) + (P : Int) + (Q : Int)) := by omega
        have k9 := HL.out w6 HB6.out
        go_wp2_with fail
        refine k9.mono ?_
        rintro _ w7 ⟨rfl, hb7⟩
        go_wp2
        go_ret
        exact ⟨rfl, HB6.out.trans (hb7.mono HB6.out.size)⟩
      · have h6' : ¬ (600 : Int) < (t : Int) + (1 + (q : Int) + (P : Int) + (Q : Int)) := by omega
        have HTn2 : Hid (t + (1 + q + P + Q) = wts12 (xs.take (j + 1))) := by rw [Hid, HTn.out, HWt.out]
        go_wp2
        go_roundw
        case rel => exact ⟨j + 1, t + (1 + q + P + Q), by go_num, by go_num, by omega, by omega, HTn2, HB6.out⟩
        case measure => simp only [intOf]; omega
    · obtain rfl : j = s.n := by omega
      have HTot : Hid (wts12 xs ≤ 600) := by
        have h1 := HT.out
        rw [show xs.take s.n = xs from List.take_of_length_le (by rw [HXl.out]; exact Nat.le_refl _)] at h1
        rw [Hid, ← h1]; exact ht
      obtain ⟨nb, hnb, hnbl⟩ : ∃ nb : Nat, z % 100000 = (nb : Int) ∧ nb < 100000 := ⟨(z % 100000).toNat, by omega, by omega⟩
      have n1 := Disk8.new nb W wr (by omega) hb
      have hz0 : 0 ≤ z := hz.1
      clear HT ht hb HB
      go_wp2_with fail
      refine n1.mono ?_
      rintro _ w1 ⟨rfl, hD1, hb1⟩
      have n2 := rnew_good nb w1 (by omega)
      clear n1
      go_wp2_with fail
      refine n2.mono ?_
      rintro _ w2 ⟨rfl, hR2, hb2⟩
      have hT : Two8 W w2 (wr.heap.size + 1) w1.heap.size (fun k => wr.heap.size ≤ k ∧ k < w1.heap.size) (fun k => w1.heap.size ≤ k ∧ k < w2.heap.size) (DM.empty nb) (DM.empty nb) := ⟨hD1.below hb2, hR2, fun _ hk => ⟨Nat.le_trans hD1.bel.size hk.1, hk.2⟩, fun _ hk hg => by omega⟩
      have HB2 : Hid (Below W.heap.size W w2) := hT.disk.bel
      have hS0 : ∃ (M : DM) (S G : Nat → Prop), Two8 W w2 (wr.heap.size + 1) w1.heap.size S G M M ∧ M.OkN 0 := ⟨_, _, _, hT, okN_empty nb (by omega)⟩
      clear n2 hR2 hD1 hb1 hb2 hT hnb
      generalize wr.heap.size + 1 = d at *
      generalize w1.heap.size = r at *
      by_cases h60 : 60 < s.n
      · have h60' : (60 : Int) < (s.n : Int) := by omega
        have k9 := HL.out w2 HB2.out
        clear hS0
        go_wp2_with fail
        refine k9.mono ?_
        rintro _ w3 ⟨rfl, hb3⟩
        go_wp2
        go_ret
        exact ⟨rfl, HB2.out.trans (hb3.mono HB2.out.size)⟩
      · have h60' : ¬ (60 : Int) < (s.n : Int) := by omega
        have HS0 : Hid _ := hS0
        clear hS0
        go_wp2
        go_loopw [75] (fun s75 wr => ∃ j : Nat, s75 = .int .i64 (j : Nat) ∧ j ≤ s.n ∧ ∃ (M : DM) (S G : Nat → Prop), Two8 W wr d r S G M M ∧ M.OkN (16777800 * j)) (fun s75 _ => s.n - (intOf s75).toNat)
        case atStart => exact ⟨0, rfl, Nat.zero_le _, HS0.out⟩
        case round =>
          obtain ⟨j, rfl, hj, M, S, G, hT, hO⟩ := hrel
          by_cases hjn : j < s.n
          · obtain ⟨b, o, hp, hbl, hld⟩ := (HX.out.below hT.disk.bel).ld hjn
            have hjx : j < xs.length := by rw [HXl.out]; exact hjn
            have hmem := getA_mem12 hjx
            have hfit := HX.out.all _ hmem
            have hwt := Nat.le_trans (wt_mem12 hmem) HTot.out
            have hwt' : 1 + ((xs.getD j noAV12).s.w.n + (xs.getD j noAV12).w.n) / 100 + (xs.getD j noAV12).s.f.u.n + (xs.getD j noAV12).s.f.v.n ≤ 600 := hwt
            clear hmem hwt hjx
            generalize xs.getD j noAV12 = a at *
            have hsd : a.s.d.length ≤ 70000 := by have := hfit.s.w.len.1; omega
            have hdd : a.d.length ≤ 70000 := by have := hfit.w.len.1; omega
            have hxs : a.x.size ≤ maxLen := by have := hfit.x; unfold maxLen; omega
            obtain ⟨w6, hw6, hb6, hA6⟩ := layK12 wr a
            have hst := stK_arr a (there_box (heap_alloc_new wr (.cells #[.int .i64 0, .int .i64 0, .int .i64 0, .slice none 0 0, .slice none 0 0, .slice none 0 0, .int .i64 0, .int .i64 0, .string ⟨#[]⟩, .slice none 0 0] 48)) 0 10 (Nat.le_refl _))
            rw [hw6] at hst
            have hDu := hT.duo (F := fun k => k = wr.heap.size) hb6 (fun k hk => ⟨by omega, by rw [hk]; exact box_lt hA6⟩)
            have HFit : Hid (FitsA12 W a) := hfit
            have HA6 : Hid (ActAt w6 wr.heap.size a) := hA6
            have HDu : Hid (Duo8 W w6 w6 (fun k => k = wr.heap.size) d r M M) := hDu
            have HO : Hid (M.OkN (16777800 * j)) := hO
            have hj60 : j < 60 := by omega
            have k0 : w6.cell? ⟨wr.heap.size, 0, none⟩ = some (.int .i64 a.k) := box_cell hA6 0
            have l0 := box_lt hA6
            clear hwt' hfit hb6 hA6 hDu hT hO
            rw [hp] at *
            go_upto_region 16 with fail
            iterate 8 go_step
            go_cut [13] (fun t wc => t = .bool true ∧ ∃ M' : DM, Hid (M'.OkN (16777800 * (j + 1))) ∧ Hid (Duo8 W w6 wc (fun k => k = wr.heap.size) d r M' M'))
            case first =>
              have hc9 : 16777800 * j + 16778000 < 1099511627776 := by omega
              have HB8 : Hid (isB8 a.d) := isB_eq12 HFit.out.b
              have hkd : a.k = 0 ∨ a.k = 1 ∨ a.k = 2 ∨ a.k = 3 ∨ a.k = 4 ∨ a.k = 5 ∨ a.k = 6 ∨ (¬ a.k = 0 ∧ ¬ a.k = 1 ∧ ¬ a.k = 2 ∧ ¬ a.k = 3 ∧ ¬ a.k = 4 ∧ ¬ a.k = 5 ∧ ¬ a.k = 6) := by omega
              clear hst hld hw6
              generalize hak : a.k = ak at *
              clear hak
              rcases hkd with q | q | q | q | q | q | q | ⟨q0, q1, q2, q3, q4, q5, q6⟩
              · subst q
                as_aux_lemma =>
                  have hD1 := HDu.out.below (ext_drew8 _)
                  have hc1 := hD1.save HG.out HO.out hc9 a.s HFit.out.s (by omega)
                  have HC2 : Hid (∀ w1, Duo8 W w6 w1 (fun k => k = wr.heap.size) d r (save12 M a.s.s).2 M → Calls Tryz.prog 20 #[.pointer (some ⟨r, 0, none⟩), .agg a.s.arr] w1 fun e w' => e = .returned (.int .i64 ((save12 M a.s.s).1 : Nat)) ∧ Duo8 W w6 w' (fun k => k = wr.heap.size) d r (save12 M a.s.s).2 (save12 M a.s.s).2) := fun w1 h1 => h1.rsave HO.out hc9 a.s HFit.out.s (by omega)
                  have HOk : Hid ((save12 M a.s.s).2.OkN (16777800 * (j + 1))) := (okN_save12 (s := a.s.s) HO.out HFit.out.s.b).mono (by omega)
                  have s0 := keepS12 hD1 HA6.out
                  clear hD1
                  go_wp2_with fail
                  go_region_held3 (fun w' => (ldS (.pointer (some ⟨wr.heap.size, 1, none⟩))).run Tryz.prog w' = .ok (.agg a.s.arr) w')
                    (first | exact s0 | exact keepS12 (by assumption) HA6.out)
                    (first
                      | (go_at_call 19; refine hc1.mono ?_; rintro e w1 ⟨rfl, h1⟩)
                      | (go_at_call 20; refine (HC2.out _ h1).mono ?_; rintro e w2 ⟨rfl, h2⟩))
                  have H2 : Hid _ := h2
                  clear s0 hc1 h1 h2
                  go_wp2
                  go_meet
                  case rel => exact ⟨by simp, _, HOk, H2⟩
              · subst q
                as_aux_lemma =>
                  have hD1 := HDu.out.below (ext_drew8 _)
                  have hc1 := hD1.arm a.n a.m HFit.out.n
                  have HC2 : Hid (∀ w1, Duo8 W w6 w1 (fun k => k = wr.heap.size) d r (M.arm a.n a.m).2 M → Calls Tryz.prog 22 #[.pointer (some ⟨r, 0, none⟩), .int .i64 a.n, .int .i64 a.m] w1 fun e w' => e = .returned (.int .i64 ((M.arm a.n a.m).1 : Nat)) ∧ Duo8 W w6 w' (fun k => k = wr.heap.size) d r (M.arm a.n a.m).2 (M.arm a.n a.m).2) := fun w1 h1 => h1.rarm a.n a.m
                  have HOk : Hid ((M.arm a.n a.m).2.OkN (16777800 * (j + 1))) := (HO.out.arm a.n a.m HFit.out.n.2 HFit.out.m).mono (by omega)
                  have s0 := (show w6.drew.cell? ⟨wr.heap.size, 6, none⟩ = some (.int .i64 a.n) ∧ w6.drew.cell? ⟨wr.heap.size, 7, none⟩ = some (.int .i64 a.m) from ⟨keepA12 hD1 HA6.out rfl, keepA12 hD1 HA6.out rfl⟩)
                  clear hD1
                  go_wp2_with fail
                  go_region_held3 (fun w' => w'.cell? ⟨wr.heap.size, 6, none⟩ = some (.int .i64 a.n) ∧ w'.cell? ⟨wr.heap.size, 7, none⟩ = some (.int .i64 a.m))
                    (first | exact s0 | exact ⟨keepA12 (by assumption) HA6.out rfl, keepA12 (by assumption) HA6.out rfl⟩)
                    (first
                      | (go_at_call 21; refine hc1.mono ?_; rintro e w1 ⟨rfl, h1⟩)
                      | (go_at_call 22; refine (HC2.out _ h1).mono ?_; rintro e w2 ⟨rfl, h2⟩))
                  have H2 : Hid _ := h2
                  clear s0 hc1 h1 h2
                  go_wp2
                  go_meet
                  case rel => exact ⟨by simp, _, HOk, H2⟩
              · subst q
                as_aux_lemma =>
                  have hc1 := HDu.out.crash HO.out (by omega) a.n HFit.out.n
                  have HC2 : Hid (∀ w1, Duo8 W w6 w1 (fun k => k = wr.heap.size) d r (M.crash a.n) M → Calls Tryz.prog 24 #[.pointer (some ⟨r, 0, none⟩), .int .i64 a.n] w1 fun e w' => (∃ v, e = .returned v) ∧ Duo8 W w6 w' (fun k => k = wr.heap.size) d r (M.crash a.n) (M.crash a.n)) := fun w1 h1 => h1.rcrash HO.out (by omega) a.n HFit.out.n
                  have HOk : Hid ((M.crash a.n).OkN (16777800 * (j + 1))) := (HO.out.crash a.n).mono (by omega)
                  have d6 : w6.cell? ⟨wr.heap.size, 6, none⟩ = some (.int .i64 a.n) := keepA12 HDu.out HA6.out rfl
                  go_wp2_with fail
                  refine hc1.mono ?_
                  rintro e w1 ⟨⟨v1, rfl⟩, h1⟩
                  have hc2 := HC2.out _ h1
                  have e6 : w1.cell? ⟨wr.heap.size, 6, none⟩ = some (.int .i64 a.n) := keepA12 h1 HA6.out rfl
                  have l1 := h1.lt12 (b := wr.heap.size) rfl
                  clear hc1 h1 HC2
                  go_wp2_with fail
                  refine hc2.mono ?_
                  rintro e w2 ⟨⟨v2, rfl⟩, h2⟩
                  have H2 : Hid _ := h2
                  clear hc2 h2
                  go_wp2
                  go_meet
                  case rel => exact ⟨rfl, _, HOk, H2⟩
              · subst q
                as_aux_lemma =>
                  have hc1 := HDu.out.start
                  have HC2 : Hid (∀ w1, Duo8 W w6 w1 (fun k => k = wr.heap.size) d r (M.start) M → Calls Tryz.prog 26 #[.pointer (some ⟨r, 0, none⟩)] w1 fun e w' => (∃ v, e = .returned v) ∧ Duo8 W w6 w' (fun k => k = wr.heap.size) d r (M.start) (M.start)) := fun w1 h1 => h1.rstart
                  have HOk : Hid ((M.start).OkN (16777800 * (j + 1))) := HO.out.start.mono (by omega)
                  go_wp2_with fail
                  refine hc1.mono ?_
                  rintro e w1 ⟨⟨v1, rfl⟩, h1⟩
                  have hc2 := HC2.out _ h1
                  clear hc1 h1 HC2
                  go_wp2_with fail
                  refine hc2.mono ?_
                  rintro e w2 ⟨⟨v2, rfl⟩, h2⟩
                  have H2 : Hid _ := h2
                  clear hc2 h2
                  go_wp2
                  go_meet
                  case rel => exact ⟨rfl, _, HOk, H2⟩
              · subst q
                as_aux_lemma =>
                  have hD1 := HDu.out.below (ext_drew8 _)
                  have hc1 := hD1.spoil HO.out.inv hxs a.n a.m HFit.out.n HFit.out.m
                  have HC2 : Hid (∀ w1, Duo8 W w6 w1 (fun k => k = wr.heap.size) d r (M.spoil a.x a.n a.m).2 M → Calls Tryz.prog 28 #[.pointer (some ⟨r, 0, none⟩), .string a.x, .int .i64 a.n, .int .i64 a.m] w1 fun e w' => e = .returned (.int .i64 ((M.spoil a.x a.n a.m).1 : Nat)) ∧ Duo8 W w6 w' (fun k => k = wr.heap.size) d r (M.spoil a.x a.n a.m).2 (M.spoil a.x a.n a.m).2) := fun w1 h1 => h1.rspoil HO.out (by omega) a.x a.n a.m HFit.out.n HFit.out.m
                  have HOk : Hid ((M.spoil a.x a.n a.m).2.OkN (16777800 * (j + 1))) := (HO.out.spoil a.x a.n a.m).mono (by omega)
                  have s0 := (show w6.drew.cell? ⟨wr.heap.size, 8, none⟩ = some (.string a.x) ∧ w6.drew.cell? ⟨wr.heap.size, 6, none⟩ = some (.int .i64 a.n) ∧ w6.drew.cell? ⟨wr.heap.size, 7, none⟩ = some (.int .i64 a.m) from ⟨keepA12 hD1 HA6.out rfl, keepA12 hD1 HA6.out rfl, keepA12 hD1 HA6.out rfl⟩)
                  clear hD1
                  go_wp2_with fail
                  go_region_held3 (fun w' => w'.cell? ⟨wr.heap.size, 8, none⟩ = some (.string a.x) ∧ w'.cell? ⟨wr.heap.size, 6, none⟩ = some (.int .i64 a.n) ∧ w'.cell? ⟨wr.heap.size, 7, none⟩ = some (.int .i64 a.m))
                    (first | exact s0 | exact ⟨keepA12 (by assumption) HA6.out rfl, keepA12 (by assumption) HA6.out rfl, keepA12 (by assumption) HA6.out rfl⟩)
                    (first
                      | (go_at_call 27; refine hc1.mono ?_; rintro e w1 ⟨rfl, h1⟩)
                      | (go_at_call 28; refine (HC2.out _ h1).mono ?_; rintro e w2 ⟨rfl, h2⟩))
                  have H2 : Hid _ := h2
                  clear s0 hc1 h1 h2
                  go_wp2
                  go_meet
                  case rel => exact ⟨by simp, _, HOk, H2⟩
              · subst q
                as_aux_lemma =>
                  have hD1 := HDu.out.below (ext_drew8 _)
                  have hc1 := hD1.create HO.out (by omega) hxs
                  have HO1 : Hid ((M.create a.x).2.OkN (16777800 * j + 1)) := HO.out.create _
                  have HC2 : Hid (∀ w1, Duo8 W w6 w1 (fun k => k = wr.heap.size) d r (M.create a.x).2 M → Calls Tryz.prog 30 #[.pointer (some ⟨r, 0, none⟩), .string a.x] w1 fun e w' => e = .returned (.int .i64 ((M.create a.x).1 : Nat)) ∧ Duo8 W w6 w' (fun k => k = wr.heap.size) d r (M.create a.x).2 (M.create a.x).2) := fun w1 h1 => h1.rcreate HO.out (by omega) hxs
                  have HC3 : Hid (∀ w1, Duo8 W w6 w1 (fun k => k = wr.heap.size) d r (M.create a.x).2 (M.create a.x).2 → Calls Tryz.prog 31 #[.pointer (some ⟨d, 0, none⟩), .string a.x, .slice a.w.p a.w.n a.w.c] w1 fun e w' => e = .returned (.int .i64 (((M.create a.x).2.append a.x a.d).1 : Nat)) ∧ Duo8 W w6 w' (fun k => k = wr.heap.size) d r ((M.create a.x).2.append a.x a.d).2 (M.create a.x).2) := fun w1 h1 => h1.append0 HO1.out (by omega) hxs HFit.out.w (by omega)
                  have HC4 : Hid (∀ w1, Duo8 W w6 w1 (fun k => k = wr.heap.size) d r ((M.create a.x).2.append a.x a.d).2 (M.create a.x).2 → Calls Tryz.prog 32 #[.pointer (some ⟨r, 0, none⟩), .string a.x, .slice a.w.p a.w.n a.w.c] w1 fun e w' => e = .returned (.int .i64 (((M.create a.x).2.append a.x a.d).1 : Nat)) ∧ Duo8 W w6 w' (fun k => k = wr.heap.size) d r ((M.create a.x).2.append a.x a.d).2 ((M.create a.x).2.append a.x a.d).2) := fun w1 h1 => h1.rappend HO1.out (by omega) a.x HFit.out.w (by omega)
                  have HOk : Hid (((M.create a.x).2.append a.x a.d).2.OkN (16777800 * (j + 1))) := (HO1.out.append a.x HB8.out).mono (by omega)
                  have s0 := (show w6.drew.cell? ⟨wr.heap.size, 8, none⟩ = some (.string a.x) ∧ w6.drew.cell? ⟨wr.heap.size, 9, none⟩ = some (.slice a.w.p a.w.n a.w.c) from ⟨keepA12 hD1 HA6.out rfl, keepA12 hD1 HA6.out rfl⟩)
                  clear hD1
                  go_wp2_with fail
                  go_region_held3 (fun w' => w'.cell? ⟨wr.heap.size, 8, none⟩ = some (.string a.x) ∧ w'.cell? ⟨wr.heap.size, 9, none⟩ = some (.slice a.w.p a.w.n a.w.c))
                    (first | exact s0 | exact ⟨keepA12 (by assumption) HA6.out rfl, keepA12 (by assumption) HA6.out rfl⟩)
                    (first
                      | (go_at_call 29; refine hc1.mono ?_; rintro e w1 ⟨rfl, h1⟩)
                      | (go_at_call 30; refine (HC2.out _ h1).mono ?_; rintro e w2 ⟨rfl, h2⟩)
                      | (go_at_call 31; refine (HC3.out _ h2).mono ?_; rintro e w3 ⟨rfl, h3⟩)
                      | (go_at_call 32; refine (HC4.out _ h3).mono ?_; rintro e w4 ⟨rfl, h4⟩))
                  have H2 : Hid _ := h4
                  clear s0 hc1 h1 h2 h3 h4
                  go_wp2
                  go_meet
                  case rel => exact ⟨by simp, _, HOk, H2⟩
              · subst q
                as_aux_lemma =>
                  have hD1 := HDu.out.below (ext_drew8 _)
                  have hc1 := hD1.remove HO.out (by omega) hxs
                  have HC2 : Hid (∀ w1, Duo8 W w6 w1 (fun k => k = wr.heap.size) d r (M.remove a.x).2 M → Calls Tryz.prog 34 #[.pointer (some ⟨r, 0, none⟩), .string a.x] w1 fun e w' => e = .returned (.int .i64 ((M.remove a.x).1 : Nat)) ∧ Duo8 W w6 w' (fun k => k = wr.heap.size) d r (M.remove a.x).2 (M.remove a.x).2) := fun w1 h1 => h1.rremove HO.out (by omega) a.x
                  have HOk : Hid ((M.remove a.x).2.OkN (16777800 * (j + 1))) := (HO.out.remove a.x).mono (by omega)
                  have s0 := (show w6.drew.cell? ⟨wr.heap.size, 8, none⟩ = some (.string a.x) from keepA12 hD1 HA6.out rfl)
                  clear hD1
                  go_wp2_with fail
                  go_region_held3 (fun w' => w'.cell? ⟨wr.heap.size, 8, none⟩ = some (.string a.x))
                    (first | exact s0 | exact keepA12 (by assumption) HA6.out rfl)
                    (first
                      | (go_at_call 33; refine hc1.mono ?_; rintro e w1 ⟨rfl, h1⟩)
                      | (go_at_call 34; refine (HC2.out _ h1).mono ?_; rintro e w2 ⟨rfl, h2⟩))
                  have H2 : Hid _ := h2
                  clear s0 hc1 h1 h2
                  go_wp2
                  go_meet
                  case rel => exact ⟨by simp, _, HOk, H2⟩
              · have HOk : Hid (M.OkN (16777800 * (j + 1))) := HO.out.mono (by omega)
                have e0 : (ak == 0) = false := by rw [beq_eq_false_iff_ne]; exact q0
                have e1 : (ak == 1) = false := by rw [beq_eq_false_iff_ne]; exact q1
                have e2 : (ak == 2) = false := by rw [beq_eq_false_iff_ne]; exact q2
                have e3 : (ak == 3) = false := by rw [beq_eq_false_iff_ne]; exact q3
                have e4 : (ak == 4) = false := by rw [beq_eq_false_iff_ne]; exact q4
                have e5 : (ak == 5) = false := by rw [beq_eq_false_iff_ne]; exact q5
                have e6 : (ak == 6) = false := by rw [beq_eq_false_iff_ne]; exact q6
                clear q0 q1 q2 q3 q4 q5 q6
                go_wp2
                go_meet
                case rel => exact ⟨rfl, _, HOk, HDu⟩
            case rest =>
              obtain ⟨rfl, M2, HO2, HD2⟩ := hcut
              as_aux_lemma =>
                obtain ⟨S2, G2, h2⟩ := HD2.out.two
                have H2 : Hid (Two8 W wc d r S2 G2 M2 M2) := h2
                have kl := loadS_any h2.disk HG.out HO2.out.inv
                have HO2' : Hid M2.Ok := HO2.out.ok (by omega)
                have KR : Hid (∀ V, Below wc.heap.size wc V → Calls Tryz.prog 36 #[.pointer (some ⟨r, 0, none⟩)] V fun e w' => ∃ Y : SnapV, e = .returned (.tuple #[.agg Y.arr, .bool (lod12 M2).2.1, .int .i64 (lod12 M2).2.2]) ∧ Y.s = (lod12 M2).1 ∧ FitsS w' Y ∧ Below V.heap.size V w') := fun V h => rload12_any (H2.out.below h).ref HO2'.out
                generalize lod12 M2 = LL at *
                obtain ⟨ls, lb, le⟩ := LL
                dsimp only at kl KR
                clear h2 HD2 hst hld hw6 k0 l0 HDu HA6
                go_wp2_with fail
                refine kl.mono ?_
                rintro _ v3 ⟨Y, rfl, hY, hOY, hb3⟩
                obtain ⟨v4, hv4, hb4, hy4, hF4⟩ := lay12 v3 Y hOY.fits
                have hst4 := stS_arr Y (there_box (heap_alloc_new v3 (.cells #[.int .i64 0, .int .i64 0, .slice none 0 0, .slice none 0 0, .slice none 0 0] 27)) 0 5 (Nat.le_refl _))
                rw [hv4] at hst4
                have hb24 := hb3.trans (hb4.mono hb3.size)
                have HB4 : Hid (Below wc.heap.size wc v4) := hb24
                have HP4 : Hid (SnapAt v4 v3.heap.size Y) := hy4
                have HF4 : Hid (FitsS v4 Y) := hF4
                have HY : Hid (Y.s = ls) := hY
                have kr := KR.out v4 hb24
                clear kl KR hY hOY hb3 hb4 hy4 hF4 hb24
                go_wp2_with fail
                refine kr.mono ?_
                rintro _ v5 ⟨Y2, rfl, hY2, hFY, hb5⟩
                obtain ⟨v6, hv6, hb6, hy6, hF6⟩ := lay12 v5 Y2 hFY
                have hst6 := stS_arr Y2 (there_box (heap_alloc_new v5 (.cells #[.int .i64 0, .int .i64 0, .slice none 0 0, .slice none 0 0, .slice none 0 0] 27)) 0 5 (Nat.le_refl _))
                rw [hv6] at hst6
                have hb46 := hb5.trans (hb6.mono hb5.size)
                have hB6 := HB4.out.trans (hb46.mono HB4.out.size)
                have H6 : Hid (Two8 W v6 d r S2 G2 M2 M2) := H2.out.below hB6
                have HP6 : Hid (SnapAt v6 v3.heap.size Y) := box_below HP4.out hb46
                have HQ6 : Hid (SnapAt v6 v5.heap.size Y2) := hy6
                have HF6 : Hid (FitsS v6 Y) := HF4.out.below hb46
                have HG6 : Hid (FitsS v6 Y2) := hF6
                have HY2 : Hid (Y2.s = ls) := hY2
                have hr6 : r < v6.heap.size := H6.out.ref.cell3.2
                have hll : Hid (M2.listT.length ≤ 1099511627776) := by
                  show _ ≤ _
                  have := HO2.out.inv.count
                  unfold DM.listT
                  split
                  · simp
                  · unfold DM.names nms; rw [List.length_map]; omega
                have K5 : Hid (∀ V, Below v6.heap.size v6 V → Calls Tryz.prog 14 #[.agg Y.arr, .agg Y2.arr] V fun e w' => e = .returned (.bool true) ∧ Below V.heap.size V w') := fun V h => by
                  have k := rsameSnap_any Y Y2 V (HF6.out.below h) (HG6.out.below h)
                  rwa [HY.out, HY2.out, (sameS10_iff ls ls).2 rfl] at k
                have K6 : Hid (∀ V, Below v6.heap.size v6 V → Calls Tryz.prog 38 #[.pointer (some ⟨d, 0, none⟩)] V fun e w' => (∃ v, e = .returned v ∧ HasT8 w' v M2.listT) ∧ Below V.heap.size V w') := fun V hb => (list_any (H6.out.below hb).disk.at8 HO2.out.inv).mono fun e w' he => ⟨he.1.imp fun v hv => ⟨hv.1, HasT8.of_owns hv.2⟩, he.2⟩
                have K7 : Hid (∀ V, Below v6.heap.size v6 V → Calls Tryz.prog 39 #[.pointer (some ⟨r, 0, none⟩)] V fun e w' => (∃ v, e = .returned v ∧ HasT8 w' v M2.listT) ∧ Below V.heap.size V w') := fun V hb => rlist_at (H6.out.below hb).ref HO2.out.inv
                have K8 : Hid (∀ V, Below v6.heap.size v6 V → Calls Tryz.prog 40 #[.pointer (some ⟨d, 0, none⟩)] V fun e w' => e = .returned (.int .i64 (M2.ops : Nat)) ∧ w' = V) := fun V hb => ops_any (H6.out.below hb).disk.at8
                have KY : Hid (∀ A, Below v6.heap.size v6 A → ((ldS (.pointer (some ⟨v3.heap.size, 0, none⟩))).run Tryz.prog A = .ok (.agg Y.arr) A ∧ (ldS (.pointer (some ⟨v5.heap.size, 0, none⟩))).run Tryz.prog A = .ok (.agg Y2.arr) A ∧ A.cell? ⟨r, 4, none⟩ = some (.int .i64 (M2.ops : Nat)) ∧ Below v6.heap.size v6 A)) := fun A h => ⟨ldS_box A _ _ _ _ (box_below HP6.out h) rfl, ldS_box A _ _ _ _ (box_below HQ6.out h) rfl, (H6.out.below h).ref.cell4, h⟩
                have KX : Hid (∀ A B, ((ldS (.pointer (some ⟨v3.heap.size, 0, none⟩))).run Tryz.prog A = .ok (.agg Y.arr) A ∧ (ldS (.pointer (some ⟨v5.heap.size, 0, none⟩))).run Tryz.prog A = .ok (.agg Y2.arr) A ∧ A.cell? ⟨r, 4, none⟩ = some (.int .i64 (M2.ops : Nat)) ∧ Below v6.heap.size v6 A) → Below A.heap.size A B → ((ldS (.pointer (some ⟨v3.heap.size, 0, none⟩))).run Tryz.prog B = .ok (.agg Y.arr) B ∧ (ldS (.pointer (some ⟨v5.heap.size, 0, none⟩))).run Tryz.prog B = .ok (.agg Y2.arr) B ∧ B.cell? ⟨r, 4, none⟩ = some (.int .i64 (M2.ops : Nat)) ∧ Below v6.heap.size v6 B)) := fun A B h hb => KY.out B (h.2.2.2.trans (hb.mono h.2.2.2.size))
                have KB : Hid (∀ A, ((ldS (.pointer (some ⟨v3.heap.size, 0, none⟩))).run Tryz.prog A = .ok (.agg Y.arr) A ∧ (ldS (.pointer (some ⟨v5.heap.size, 0, none⟩))).run Tryz.prog A = .ok (.agg Y2.arr) A ∧ A.cell? ⟨r, 4, none⟩ = some (.int .i64 (M2.ops : Nat)) ∧ Below v6.heap.size v6 A) → Below v6.heap.size v6 A) := fun A h => h.2.2.2
                have KE : Hid (∀ A, Below v6.heap.size v6 A → ∃ (M : DM) (S G : Nat → Prop), Two8 W A d r S G M M ∧ M.OkN (16777800 * (j + 1))) := fun A h => ⟨M2, S2, G2, H6.out.below h, HO2.out⟩
                have sb0 := KY.out v6.drew (on_drew12 (Below.refl _ _))
                clear kr hY2 hFY hb5 hb6 hy6 hF6 hb46 hB6 HB4 HP4 HF4 H2 hst4 hv4 hv6 HO HFit hsd hdd hxs
                generalize M2.ops = op at *
                generalize M2.listT = li at *
                go_upto_region 36 with fail
                clear hst6
                go_region_held3 (fun w' => (ldS (.pointer (some ⟨v3.heap.size, 0, none⟩))).run Tryz.prog w' = .ok (.agg Y.arr) w' ∧ (ldS (.pointer (some ⟨v5.heap.size, 0, none⟩))).run Tryz.prog w' = .ok (.agg Y2.arr) w' ∧ w'.cell? ⟨r, 4, none⟩ = some (.int .i64 (op : Nat)) ∧ Below v6.heap.size v6 w')
                  (first | (with_reducible exact sb0) | (with_reducible assumption) | (with_reducible exact KX.out _ _ (by assumption) (by assumption)))
                  (first
                    | (go_at_call 14; (with_reducible refine Calls.mono (K5.out _ (KB.out _ (by assumption))) ?_); (rintro _ g1 ⟨rfl, hc1⟩))
                    | (go_at_call 38; (with_reducible refine Calls.mono (K6.out _ (KB.out _ (by assumption))) ?_); (rintro _ g2 ⟨⟨vl2, rfl, t2⟩, hc2⟩); replace t2 : Hid (HasT8 g2 vl2 li) := t2)
                    | (go_at_call 39; (with_reducible refine Calls.mono (K7.out _ (KB.out _ (by assumption))) ?_); (rintro _ g3 ⟨⟨vl3, rfl, t3⟩, hc3⟩); replace t3 : Hid (HasT8 g3 vl3 li) := t3; replace t2 : Hid (HasT8 g3 vl2 li) := t2.out.below hc3 (Nat.le_refl _))
                    | (go_at_call 37; refine (texts8 _ _ li li _ t2.out t3.out hll.out hll.out).mono ?_; (rintro _ g4 ⟨rfl, hc4⟩); rw [decide_eq_true rfl])
                    | (go_at_call 40; (with_reducible refine Calls.mono (K8.out _ (KB.out _ (by assumption))) ?_); (rintro _ _ ⟨rfl, rfl⟩)))
                go_wp2
                go_roundw
                case rel => exact ⟨j + 1, by go_num, by omega, KE.out _ (KB.out _ (by assumption))⟩
                case measure => simp only [intOf]; omega
          · have hbe := hT.disk.bel
            have k9 := HL.out wr hbe
            clear hT
            go_wp2_with fail
            refine k9.mono ?_
            rintro _ w3 ⟨rfl, hb3⟩
            go_wp2
            go_ret
            exact ⟨rfl, hbe.trans (hb3.mono hbe.size)⟩
end Go.Proofs.YthlelcmifolnfaaGreatDoor
