/-
  The walk of corbellaw05.SwissBounds (under way).
-/
import Derived.Test.YtkjnifipepiahaaDoorSwBpTo
import Derived.Test.YtkjnifipepiahaaDoorSwBpTo
import Derived.Test.YtkjnifipepiahaaDoorH6To
import Derived.Test.YtkjnifipepiahaaDoorSwDiTo
import Derived.Test.YtkjnifipepiahaaDoorSwMTo
import Derived.Deep.CutRange
namespace Go.Proofs.YtkjnifipepiahaaDoor
open Go.RowKit Go.Shelf

theorem nodup_dif : ∀ {xs : List ByteArray}, xs.Nodup → ∀ {j : Nat}, j < xs.length → ∀ i, i < j → xs.getD i ByteArray.empty ≠ xs.getD j ByteArray.empty := by
  intro xs h j hj i hi e
  rw [List.getD_eq_getElem?_getD, List.getD_eq_getElem?_getD, List.getElem?_eq_getElem hj, List.getElem?_eq_getElem (by omega)] at e
  exact List.pairwise_iff_getElem.1 h i j (by omega) hj hi e

set_option maxRecDepth 10000 in
set_option maxHeartbeats 8000000 in
theorem swissBounds_any (k0 k1 : Int) (p : Option Addr) (n c : Nat) (xs : List Act') (hlen : xs.length = n) (w : World) (hT : Tab w) (_hk0 : 0 ≤ k0 ∧ k0 ≤ 18446744073709551615) (_hk1 : 0 ≤ k1 ∧ k1 ≤ 18446744073709551615) (hX : HasA w (.slice p n c) xs) (hn : (n : Int) ≤ 9223372036854775807) :
    Calls Tryd.prog 5 #[.agg #[.int .u64 k0, .int .u64 k1], .slice p n c] w fun e w' => e = .returned (.bool true) ∧ Below w.heap.size w w' := by
  have hw0 := hT.1
  have hB0 : Below w.heap.size w (w.alloc (.cells #[.int .u64 k0, .int .u64 k1] 24)) := (Below.refl _ _).alloc (Nat.le_refl _) _
  have hz0 : (w.alloc (.cells #[.int .u64 k0, .int .u64 k1] 24)).heap.size = w.heap.size + 1 := by simp
  have hnew := new_any_s k0 k1 0 (w.alloc (.cells #[.int .u64 k0, .int .u64 k1] 24)) (by omega) (by omega) (by decide)
  rw [show (needI 0).toNat = 1 by decide, hz0] at hnew
  go_enter Tryd.func5, Tryd.ntmps5
  go_wp2_with fail
  refine hnew.mono ?_
  rintro e w1 ⟨b, bw0, bs0, rfl, hl0, g1, g2, g3, hb1⟩
  have hB1 : Below w.heap.size w w1 := hB0.trans (hb1.mono (by omega))
  clear hnew hb1 hB0
  go_wp2_with fail
  refine (few_any p n c xs hlen w1 (hX.below hB1 (Nat.le_refl _)) hn).mono ?_
  rintro e w2 ⟨r1, rfl, hr1, hb2⟩
  have hB2 : Below w.heap.size w w2 := hB1.trans (hb2.mono hB1.size)
  replace hl0 := hl0.below hb2 (Nat.le_refl _)
  clear hb2 hB1
  have hlives := fun (W : World) (hW : Below w.heap.size w W) => lives_any W (hT.below hW hw0)
  cases r1 with
  | false =>
    go_wp2_with fail
    refine (hlives w2 hB2).mono ?_
    rintro e w3 ⟨rfl, hb3⟩
    go_wp2
    go_ret
    exact ⟨rfl, hB2.trans (hb3.mono hB2.size)⟩
  | true =>
    have hf1 := few_len (hr1 rfl)
    rw [hlen] at hf1
    clear hr1 hlen
    obtain ⟨hinv0, hno0⟩ := inv_empty k0 k1 (.string ⟨#[]⟩) 1 (by decide) (isV_string _)
    clear hno0
    go_wp2
    go_loopw [36] (fun t wr => ∃ (j bw bs : Nat) (M : SM), j ≤ n ∧ t = .int .i64 (j : Nat) ∧ Lies 79 76 wr b bw bs M ∧ M.Inv IsV_s ∧ M.n ≤ j ∧ w.heap.size ≤ bw ∧ w.heap.size ≤ bs ∧ Below w.heap.size w wr) (fun t _ => n - (intOf t).toNat)
    case atStart => exact ⟨0, bw0, bs0, _, by omega, rfl, hl0, hinv0, Nat.zero_le _, by omega, by omega, hB2⟩
    case round =>
      obtain ⟨j, bw, bs, M, hj, rfl, hl, hinv, hnj, q2, q3, hb⟩ := hrel
      clear hinv0 hl0 hB2
      have hzr := hb.size
      by_cases hlt : j < n
      · obtain ⟨bb, oo, rfl, hbb, hcc, c1, c2', c3, z1, z2⟩ := act_at hX hb hlt
        generalize xs.getD j default = act at *
        obtain ⟨kd, ky, vl⟩ := act
        dsimp only at c1 c2' c3 z1 z2
        have hBa : Below w.heap.size w (wr.alloc (.cells #[.int .i64 kd, .string ky, .string vl] 33)) := hb.alloc hzr _
        have hza : (wr.alloc (.cells #[.int .i64 kd, .string ky, .string vl] 33)).heap.size = wr.heap.size + 1 := by simp
        have hla := hl.below (((Below.refl _ wr).alloc (Nat.le_refl _) (.cells #[.int .i64 kd, .string ky, .string vl] 33))) (Nat.le_refl _)
        go_upto_if 42 with fail
        go_cut [36] from 36 to 104 (fun t wc => t = .int .i64 (j : Nat) ∧ ∃ (bw' bs' : Nat) (M' : SM), Lies 79 76 wc b bw' bs' M' ∧ M'.Inv IsV_s ∧ M'.n ≤ j + 1 ∧ w.heap.size ≤ bw' ∧ w.heap.size ≤ bs' ∧ Below w.heap.size w wc)
        case first =>
          by_cases hk : kd = 1
          · subst hk
            have hdel := delete_any_s b bw bs M ky _ (hT.below hBa hw0) hla (sane_of_inv hinv) (by omega)
            obtain ⟨i1, _, _, _, _, i6, _⟩ := inv_del hinv (key := ky) (z := .string ⟨#[]⟩) (isV_string _)
            have hn' : (M.del ky (.string ⟨#[]⟩)).2.n ≤ j + 1 := by omega
            clear i6 hinv hla hl
            generalize (M.del ky (.string ⟨#[]⟩)).2 = M' at *
            generalize (M.del ky (.string ⟨#[]⟩)).1 = is at *
            go_wp2_with fail
            refine hdel.mono ?_
            rintro e w5 ⟨rfl, hl5, hbut⟩
            have hB5 : Below w.heap.size w w5 := hBa.trans (hbut.below (B := w.heap.size) (by simp; omega) (by omega))
            clear hdel hbut
            go_wp2
            go_meet
            case rel => exact ⟨rfl, bw, bs, M', hl5, i1, hn', q2, q3, hB5⟩
          · have hput := put_any_s b bw bs M ky ⟨#[]⟩ _ (hT.below hBa hw0) hla (sane_of_inv hinv) (by omega)
            obtain ⟨i1, _, _, i4⟩ := inv_put hinv (key := ky) (v := .string ⟨#[]⟩) (z := .string ⟨#[]⟩) (isV_string _) (isV_string _) (by omega)
            obtain ⟨_, _, i7, _⟩ := i4 (by omega)
            have hn' : (M.put ky (.string ⟨#[]⟩) (.string ⟨#[]⟩)).2.2.n ≤ j + 1 := by rw [i7]; split <;> omega
            clear i4 i7 hinv hla hl
            generalize (M.put ky (.string ⟨#[]⟩) (.string ⟨#[]⟩)).2.2 = M' at *
            generalize (M.put ky (.string ⟨#[]⟩) (.string ⟨#[]⟩)).2.1 = er at *
            generalize (M.put ky (.string ⟨#[]⟩) (.string ⟨#[]⟩)).1 = is at *
            go_wp2_with fail
            refine hput.mono ?_
            rintro e w5 ⟨rfl, bw', bs', hl5, hbut, h1, h2⟩
            have hB5 : Below w.heap.size w w5 := hBa.trans (hbut.below (B := w.heap.size) (by simp; omega) (by omega))
            have g2' : w.heap.size ≤ bw' := by omega
            have g3' : w.heap.size ≤ bs' := by omega
            clear hput hbut h1 h2
            go_wp2
            go_meet
            case rel => exact ⟨rfl, bw', bs', M', hl5, i1, hn', g2', g3', hB5⟩
        case rest =>
          obtain ⟨rfl, bw, bs, M, hl, hinv, hnj, q2, q3, hb⟩ := hcut
          have hzr := hb.size
          have hr0 := good_range hinv.fit.good
          go_wp2_with fail
          refine (controls_any_s b bw bs M wc hl hinv.fit).mono ?_
          rintro e w5 ⟨ga, ca, rfl, hga, oa, hb5⟩
          have hB5 : Below w.heap.size w w5 := hb.trans (hb5.mono hzr)
          have hl5 := hl.below hb5 (Nat.le_refl _)
          have hz5 := hb5.size
          have wa := hasW_owns oa
          clear hl hb5 hb oa
          go_wp2
          go_loopw [54, 8, 9, 10] (fun t x y z wr => ∃ g : Nat, g ≤ M.ws.length ∧ t = .int .i64 (g : Nat) ∧ x = .int .i64 (M.cnt isFullB g : Nat) ∧ y = .int .i64 (M.cnt isFreeB g : Nat) ∧ z = .int .i64 (M.cnt isEmptyB g : Nat) ∧ wr = w5) (fun t _ _ _ _ => M.ws.length - (intOf t).toNat)
          case atStart => exact ⟨0, by omega, rfl, rfl, rfl, rfl, rfl⟩
          case round =>
            obtain ⟨g, hg, rfl, rfl, rfl, rfl, rfl⟩ := hrel
            have l1 := cnt_le M isFullB g
            have l2 := cnt_le M isFreeB g
            have l3 := cnt_le M isEmptyB g
            by_cases hgl : g < M.ws.length
            · obtain ⟨_, _, hpp, _, _, hcell⟩ := id wa
              cases hpp
              obtain ⟨_, _, hpp, _, hcell⟩ := hcell (by omega)
              cases hpp
              have cw := hcell g hgl
              rw [Nat.zero_add] at cw
              have hwg : M.w g < 18446744073709551616 := hinv.fit.words g hgl
              have s1 := cnt_full M g
              have s2 := cnt_free M g
              have s3 := cnt_empty M g
              unfold SM.w at hwg s1 s2 s3
              generalize M.ws.getD g 0 = wd at *
              clear hcell
              have t1 := slots_le (fullN wd)
              have t2 := slots_le (freeN wd)
              have t3 := slots_le (matchN wd 128)
              go_wp2_with fail
              refine same_mono (rfull_any wd _ hwg) ?_
              go_wp2_with fail
              refine same_mono (rcount_any _ _ (fullN_lt _)) ?_
              go_wp2_with fail
              refine same_mono (rfree_any wd _ hwg) ?_
              go_wp2_with fail
              refine same_mono (rcount_any _ _ (freeN_lt _)) ?_
              go_wp2_with fail
              refine same_mono (rmatch_any wd 128 _ hwg) ?_
              go_wp2_with fail
              refine same_mono (rcount_any _ _ (matchN_lt _ _)) ?_
              go_wp2
              go_roundw
              case rel =>
                refine ⟨g + 1, by omega, by simp, ?_, ?_, ?_, trivial⟩
                · rw [s1, Int.natCast_add]
                · rw [s2, Int.natCast_add]
                · rw [s3, Int.natCast_add]
              case measure => simp only [intOf]; omega
            · obtain rfl : g = M.ws.length := by omega
              have n1 := cnt_n hinv
              have n2 := cnt_t hinv
              have n3 := cnt_or M M.ws.length
              have hload := hinv.load
              have hfn := full_n hinv
              generalize M.cnt isFullB M.ws.length = nf at *
              generalize M.cnt isFreeB M.ws.length = nr at *
              generalize M.cnt isEmptyB M.ws.length = ne at *
              subst n1
              have n4 : nr = ne + M.t := by omega
              subst n4
              clear n2 n3 wa hg hgl
              have hd1 : ((ne + M.t : Nat) : Int) - ne = M.t := by omega
              have hd2 : ¬ 7 * (M.ws.length : Int) < (M.n : Int) + M.t := by omega
              go_wp2_with fail
              refine same_mono (len_any_s b bw bs M _ hl5 hinv.fit) ?_
              go_wp2_with fail
              refine same_mono (tombs_any_s b bw bs M _ hl5 hinv.fit) ?_
              go_wp2_with fail
              refine same_mono (tombs_any_s b bw bs M _ hl5 hinv.fit) ?_
              go_wp2_with fail
              refine (controls_any_s b bw bs M _ hl5 hinv.fit).mono ?_
              rintro e w6 ⟨gb, cb, rfl, hgb, ob, hb6⟩
              have hB6 := hB5.trans (hb6.mono hB5.size)
              have hl6 := hl5.below hb6 (Nat.le_refl _)
              clear ob hl5 hb6 hB5
              go_wp2_with fail
              refine (keys_any_s b bw bs M w6 (hT.below hB6 hw0) hl6 hinv.fit hfn).mono ?_
              rintro e w7 ⟨gd, rfl, hgd, od, hb7⟩
              have hB7 := hB6.trans (hb7.mono hB6.size)
              have hl7 := hl6.below hb7 (Nat.le_refl _)
              clear od hl6 hb7 hB6
              go_wp2
              go_roundw
              case rel =>
                exact ⟨j + 1, bw, bs, M, by omega, by simp, hl7, hinv, hnj, q2, q3, hB7⟩
              case measure => simp only [intOf]; omega
      · obtain rfl : n = j := by omega
        clear hlt hj
        have hn0 : M.n ≤ 600 := by omega
        have hfn := full_n hinv
        have hkl := keys_len hinv
        have hnd : M.keys.Nodup := keys_nodup hinv
        clear hnj
        go_wp2_with fail
        refine (keys_any_s b bw bs M wr (hT.below hb hw0) hl hinv.fit hfn).mono ?_
        rintro e w5 ⟨gc, rfl, hgc, oc, hb5⟩
        have hB5 : Below w.heap.size w w5 := hb.trans (hb5.mono hzr)
        have hl5 := hl.below hb5 (Nat.le_refl _)
        have ta := hasT_owns (xs := M.keys) (by rw [hkl]; exact oc)
        clear hl hb5 hb oc
        go_wp2
        go_loopw [109] (fun t wr => ∃ j : Nat, j ≤ M.n ∧ t = .int .i64 (j : Nat) ∧ Below w5.heap.size w5 wr) (fun t _ => M.n - (intOf t).toNat)
        case atStart => exact ⟨0, by omega, rfl, Below.refl _ _⟩
        case round =>
          obtain ⟨j, hj, rfl, hbr⟩ := hrel
          have hzV := hbr.size
          have hBv : Below w.heap.size w wr := hB5.trans (hbr.mono hB5.size)
          have hlv := hl5.below hbr (Nat.le_refl _)
          by_cases hlt : j < M.n
          · obtain ⟨_, _, hpp, hnc, hjl, ck⟩ := text_at ta hbr (Nat.le_refl _) hlt
            cases hpp
            rw [Nat.zero_add] at ck
            have hmem := getD_mem hjl
            have hks := keys_size hinv hmem
            have hgh := get_has hinv hmem
            have hdif : Hid (∀ i, i < j → M.keys.getD i ByteArray.empty ≠ M.keys.getD j ByteArray.empty) := nodup_dif hnd hjl
            clear hjl hmem
            generalize M.keys.getD j ByteArray.empty = key at *
            have hget := get_map_s b bw bs M key wr (hT.below hBv hw0) hlv hinv.fit hinv.typed hks
            rw [get_val hinv key, hgh] at hget
            clear hgh
            generalize valK M key = vk at *
            go_wp2_with fail
            refine hget.mono ?_
            rintro e w16 ⟨rfl, hb16⟩
            clear hget
            have hbr16 := hbr.trans (hb16.mono hzV)
            clear hb16 hbr ck
            go_wp2
            go_loopw [126] (fun t wr => ∃ i : Nat, i ≤ j ∧ t = .int .i64 (i : Nat) ∧ wr = w16) (fun t _ => j - (intOf t).toNat)
            case atStart => exact ⟨0, by omega, rfl, rfl⟩
            case round =>
              obtain ⟨i, hi, rfl, rfl⟩ := hrel
              by_cases hil : i < j
              · obtain ⟨_, _, hpp, _, _, ci⟩ := text_at ta hbr16 (Nat.le_refl _) (j := i) (by omega)
                cases hpp
                rw [Nat.zero_add] at ci
                have hne := str_ne (hdif.out i hil).symm
                generalize M.keys.getD i ByteArray.empty = other at *
                go_wp2
                go_roundw
                case rel => exact ⟨i + 1, by omega, by simp, trivial⟩
                case measure => simp only [intOf]; omega
              · obtain rfl : i = j := by omega
                go_wp2
                go_roundw
                case rel => exact ⟨i + 1, by omega, by simp, hbr16⟩
                case measure => simp only [intOf]; omega
          · go_wp2_with fail
            refine (hlives wr hBv).mono ?_
            rintro e w3 ⟨rfl, hb3⟩
            go_wp2
            go_ret
            exact ⟨rfl, hBv.trans (hb3.mono hBv.size)⟩
end Go.Proofs.YtkjnifipepiahaaDoor
