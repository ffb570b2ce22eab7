/-
  The walk of corbellaw05.SwissCopies.
-/
import Derived.Test.YtkjnifipepiahaaDoorSwJcsTo
import Derived.Test.YtkjnifipepiahaaDoorSwJcsTo
import Derived.Test.YtkjnifipepiahaaDoorSwDiTo
import Derived.Test.YtkjnifipepiahaaDoorSwMTo
namespace Go.Proofs.YtkjnifipepiahaaDoor
open Go.RowKit Go.Shelf

set_option maxRecDepth 10000 in
set_option maxHeartbeats 8000000 in
theorem swissCopies_any (k0 k1 : Int) (p : Option Addr) (n c : Nat) (xs : List Act') (hlen : xs.length = n) (p2 : Option Addr) (n2 c2 : Nat) (ys : List Act') (hlen2 : ys.length = n2) (w : World) (hT : Tab w) (_hk0 : 0 ≤ k0 ∧ k0 ≤ 18446744073709551615) (_hk1 : 0 ≤ k1 ∧ k1 ≤ 18446744073709551615) (hX : HasA w (.slice p n c) xs) (hn : (n : Int) ≤ 9223372036854775807) (hY : HasA w (.slice p2 n2 c2) ys) (hn2 : (n2 : Int) ≤ 9223372036854775807) :
    Calls Tryd.prog 6 #[.agg #[.int .u64 k0, .int .u64 k1], .slice p n c, .slice p2 n2 c2] w fun e w' => e = .returned (.bool true) ∧ Below w.heap.size w w' := by
  have hw0 := hT.1
  have hB0 : Below w.heap.size w (w.alloc (.cells #[.int .u64 k0, .int .u64 k1] 24)) := (Below.refl _ _).alloc (Nat.le_refl _) _
  have hz0 : (w.alloc (.cells #[.int .u64 k0, .int .u64 k1] 24)).heap.size = w.heap.size + 1 := by simp
  have hnew := new_any_s k0 k1 0 (w.alloc (.cells #[.int .u64 k0, .int .u64 k1] 24)) (by omega) (by omega) (by decide)
  rw [show (needI 0).toNat = 1 by decide, hz0] at hnew
  go_enter Tryd.func6, Tryd.ntmps6
  go_wp2_with fail
  refine hnew.mono ?_
  rintro e w1 ⟨b, bw0, bs0, rfl, hl0, g1, g2, g3, hb1⟩
  have hB1 : Below w.heap.size w w1 := hB0.trans (hb1.mono (by omega))
  clear hnew hb1 hB0
  go_wp2_with fail
  refine (few_any p n c xs hlen w1 (hX.below hB1 (Nat.le_refl _)) hn).mono ?_
  rintro e w2 ⟨r1, rfl, hr1, hb2⟩
  have hB2 : Below w.heap.size w w2 := hB1.trans (hb2.mono hB1.size)
  replace hl0 := hl0.below hb2 (Nat.le_refl _)
  clear hb2 hB1
  have hlives := fun (W : World) (hW : Below w.heap.size w W) => lives_any W (hT.below hW hw0)
  cases r1 with
  | false =>
    go_wp2_with fail
    refine (hlives w2 hB2).mono ?_
    rintro e w3 ⟨rfl, hb3⟩
    go_wp2
    go_ret
    exact ⟨rfl, hB2.trans (hb3.mono hB2.size)⟩
  | true =>
    have hf1 := few_len (hr1 rfl)
    rw [hlen] at hf1
    clear hr1
    go_wp2_with fail
    refine (few_any p2 n2 c2 ys hlen2 w2 (hY.below hB2 (Nat.le_refl _)) hn2).mono ?_
    rintro e w3 ⟨r2, rfl, hr2, hb3⟩
    have hB3 : Below w.heap.size w w3 := hB2.trans (hb3.mono hB2.size)
    replace hl0 := hl0.below hb3 (Nat.le_refl _)
    clear hb3 hB2
    cases r2 with
    | false =>
      go_wp2_with fail
      refine (hlives w3 hB3).mono ?_
      rintro e w4 ⟨rfl, hb4⟩
      go_wp2
      go_ret
      exact ⟨rfl, hB3.trans (hb4.mono hB3.size)⟩
    | true =>
      have hf2 := few_len (hr2 rfl)
      rw [hlen2] at hf2
      clear hr2 hlen hlen2
      obtain ⟨hinv0, hno0⟩ := inv_empty k0 k1 (.string ⟨#[]⟩) 1 (by decide) (isV_string _)
      clear hno0
      go_wp2
      go_loopw [45] (fun t wr => ∃ (j bw bs : Nat) (M : SM), j ≤ n ∧ t = .int .i64 (j : Nat) ∧ Lies 79 76 wr b bw bs M ∧ M.Inv IsV_s ∧ M.n ≤ j ∧ w.heap.size ≤ bw ∧ w.heap.size ≤ bs ∧ Below w.heap.size w wr) (fun t _ => n - (intOf t).toNat)
      case atStart => exact ⟨0, bw0, bs0, _, by omega, rfl, hl0, hinv0, Nat.zero_le _, by omega, by omega, hB3⟩
      case round =>
        obtain ⟨j, bw, bs, M, hj, rfl, hl, hinv, hnj, q2, q3, hb⟩ := hrel
        clear hinv0 hl0 hB3
        have hzr := hb.size
        by_cases hlt : j < n
        · obtain ⟨bb, oo, rfl, hbb, hcc, c1, c2', c3, z1, z2⟩ := act_at hX hb hlt
          generalize xs.getD j default = act at *
          obtain ⟨kd, ky, vl⟩ := act
          dsimp only at c1 c2' c3 z1 z2
          have hBa : Below w.heap.size w (wr.alloc (.cells #[.int .i64 kd, .string ky, .string vl] 33)) := hb.alloc hzr _
          have hza : (wr.alloc (.cells #[.int .i64 kd, .string ky, .string vl] 33)).heap.size = wr.heap.size + 1 := by simp
          have hla := hl.below (((Below.refl _ wr).alloc (Nat.le_refl _) (.cells #[.int .i64 kd, .string ky, .string vl] 33))) (Nat.le_refl _)
          by_cases hk : kd = 1
          · subst hk
            have hdel := delete_any_s b bw bs M ky _ (hT.below hBa hw0) hla (sane_of_inv hinv) (by omega)
            obtain ⟨i1, _, _, _, _, i6, _⟩ := inv_del hinv (key := ky) (z := .string ⟨#[]⟩) (isV_string _)
            have hn' : (M.del ky (.string ⟨#[]⟩)).2.n ≤ j + 1 := by omega
            clear i6 hinv hla hl
            generalize (M.del ky (.string ⟨#[]⟩)).2 = M' at *
            generalize (M.del ky (.string ⟨#[]⟩)).1 = is at *
            go_wp2_with fail
            refine hdel.mono ?_
            rintro e w5 ⟨rfl, hl5, hbut⟩
            have hB5 : Below w.heap.size w w5 := hBa.trans (hbut.below (B := w.heap.size) (by simp; omega) (by omega))
            clear hdel hbut
            go_wp2
            go_roundw
            case rel => exact ⟨j + 1, bw, bs, M', by omega, by simp, hl5, i1, hn', q2, q3, hB5⟩
            case measure => simp only [intOf]; omega
          · have hput := put_any_s b bw bs M ky vl _ (hT.below hBa hw0) hla (sane_of_inv hinv) (by omega)
            obtain ⟨i1, _, _, i4⟩ := inv_put hinv (key := ky) (v := .string vl) (z := .string ⟨#[]⟩) (isV_string _) (isV_string _) (by omega)
            obtain ⟨_, _, i7, _⟩ := i4 (by omega)
            have hn' : (M.put ky (.string vl) (.string ⟨#[]⟩)).2.2.n ≤ j + 1 := by rw [i7]; split <;> omega
            clear i4 i7 hinv hla hl
            generalize (M.put ky (.string vl) (.string ⟨#[]⟩)).2.2 = M' at *
            generalize (M.put ky (.string vl) (.string ⟨#[]⟩)).2.1 = er at *
            generalize (M.put ky (.string vl) (.string ⟨#[]⟩)).1 = is at *
            go_wp2_with fail
            refine hput.mono ?_
            rintro e w5 ⟨rfl, bw', bs', hl5, hbut, h1, h2⟩
            have hB5 : Below w.heap.size w w5 := hBa.trans (hbut.below (B := w.heap.size) (by simp; omega) (by omega))
            have g2' : w.heap.size ≤ bw' := by omega
            have g3' : w.heap.size ≤ bs' := by omega
            clear hput hbut h1 h2
            go_wp2
            go_roundw
            case rel => exact ⟨j + 1, bw', bs', M', by omega, by simp, hl5, i1, hn', g2', g3', hB5⟩
            case measure => simp only [intOf]; omega
        · obtain rfl : n = j := by omega
          clear hlt hj
          have hn0 : M.n ≤ 600 := by omega
          have hr0 := good_range hinv.fit.good
          clear hnj
          go_wp2_with fail
          refine (copy_any_s b bw bs M wr hl hinv.fit hinv.typed).mono ?_
          rintro e w5 ⟨cb, cw, cs, rfl, hc5, f1, f2, f3, hb5⟩
          have hB5 : Below w.heap.size w w5 := hb.trans (hb5.mono hzr)
          have hl5 := hl.below hb5 (Nat.le_refl _)
          have hz5 := hb5.size
          have hltb := hl.lt
          have hltc := hc5.lt
          clear hl hb5 hb
          go_wp2_with fail
          refine (controls_any_s cb cw cs M w5 hc5 hinv.fit).mono ?_
          rintro e w6 ⟨ga, ca, rfl, hga, oa, hb6⟩
          have hB6 : Below w.heap.size w w6 := hB5.trans (hb6.mono (by omega))
          have hl6 := hl5.below hb6 (Nat.le_refl _)
          have hc6 := hc5.below hb6 (Nat.le_refl _)
          have hz6 := hb6.size
          have wa := hasW_owns oa
          clear hl5 hc5 hb6 hB5 oa
          go_wp2_with fail
          refine (controls_any_s b bw bs M w6 hl6 hinv.fit).mono ?_
          rintro e w7 ⟨gb, cb2, rfl, hgb, ob, hb7⟩
          have hB7 : Below w.heap.size w w7 := hB6.trans (hb7.mono (by omega))
          have hl7 := hl6.below hb7 (Nat.le_refl _)
          have hc7 := hc6.below hb7 (Nat.le_refl _)
          have hz7 := hb7.size
          have wa7 := wa.below hb7 (Nat.le_refl _)
          have wb := hasW_owns ob
          clear hl6 hc6 hb7 hB6 ob wa
          go_wp2_with fail
          refine (words_any _ _ M.ws M.ws w7 wa7 wb (by omega) (by omega)).mono ?_
          rintro e w8 ⟨rfl, hb8⟩
          have hB8 : Below w.heap.size w w8 := hB7.trans (hb8.mono (by omega))
          have hl8 := hl7.below hb8 (Nat.le_refl _)
          have hc8 := hc7.below hb8 (Nat.le_refl _)
          have hz8 := hb8.size
          rw [decide_eq_true rfl]
          clear hl7 hc7 hb8 hB7 wa7 wb
          have hfn := full_n hinv
          have hkl := keys_len hinv
          go_wp2_with fail
          refine (keys_any_s cb cw cs M w8 (hT.below hB8 hw0) hc8 hinv.fit hfn).mono ?_
          rintro e w9 ⟨gc, rfl, hgc, oc, hb9⟩
          have hB9 : Below w.heap.size w w9 := hB8.trans (hb9.mono (by omega))
          have hl9 := hl8.below hb9 (Nat.le_refl _)
          have hc9 := hc8.below hb9 (Nat.le_refl _)
          have hz9 := hb9.size
          have ta := hasT_owns (xs := M.keys) (by rw [hkl]; exact oc)
          clear hl8 hc8 hb9 hB8 oc
          go_wp2_with fail
          refine (keys_any_s b bw bs M w9 (hT.below hB9 hw0) hl9 hinv.fit hfn).mono ?_
          rintro e w10 ⟨gd, rfl, hgd, od, hb10⟩
          have hB10 : Below w.heap.size w w10 := hB9.trans (hb10.mono (by omega))
          have hl10 := hl9.below hb10 (Nat.le_refl _)
          have hc10 := hc9.below hb10 (Nat.le_refl _)
          have hz10 := hb10.size
          have ta10 := ta.below hb10 (Nat.le_refl _)
          have tb := hasT_owns (xs := M.keys) (by rw [hkl]; exact od)
          clear hl9 hc9 hb10 hB9 od ta
          go_wp2_with fail
          refine (texts_any _ _ M.keys M.keys w10 ta10 tb (by omega) (by omega)).mono ?_
          rintro e w11 ⟨rfl, hb11⟩
          have hB11 : Below w.heap.size w w11 := hB10.trans (hb11.mono (by omega))
          have hl11 := hl10.below hb11 (Nat.le_refl _)
          have hc11 := hc10.below hb11 (Nat.le_refl _)
          have hz11 := hb11.size
          rw [decide_eq_true rfl]
          clear hl10 hc10 hb11 hB10 ta10 tb
          go_wp2_with fail
          refine (controls_any_s b bw bs M w11 hl11 hinv.fit).mono ?_
          rintro e w12 ⟨ge, ce, rfl, hge, oe, hb12⟩
          have hB12 : Below w.heap.size w w12 := hB11.trans (hb12.mono (by omega))
          have hl12 := hl11.below hb12 (Nat.le_refl _)
          have hc12 := hc11.below hb12 (Nat.le_refl _)
          have hz12 := hb12.size
          have we := hasW_owns oe
          clear hl11 hc11 hb12 hB11 oe
          go_wp2_with fail
          refine (keys_any_s b bw bs M w12 (hT.below hB12 hw0) hl12 hinv.fit hfn).mono ?_
          rintro e w13 ⟨gf, rfl, hgf, of', hb13⟩
          have hB13 : Below w.heap.size w w13 := hB12.trans (hb13.mono (by omega))
          have hl13 := hl12.below hb13 (Nat.le_refl _)
          have hc13 := hc12.below hb13 (Nat.le_refl _)
          have hz13 := hb13.size
          have we13 := we.below hb13 (Nat.le_refl _)
          have tf := hasT_owns (xs := M.keys) (by rw [hkl]; exact of')
          clear hl12 hc12 hb13 hB12 of' we
          go_wp2
          go_loopw [89, 13] (fun t v wr => ∃ (j : Nat) (vs : List ByteArray), j ≤ M.n ∧ t = .int .i64 (j : Nat) ∧ OwnsT wr w13.heap.size v vs ∧ vs.length = j ∧ Hid (vs = (M.keys.take j).map (valK M)) ∧ Below w13.heap.size w13 wr) (fun t _ _ => M.n - (intOf t).toNat)
          case atStart => exact ⟨0, [], by omega, rfl, World.ownsRow_nil _ _ _ _, rfl, rfl, Below.refl _ _⟩
          case round =>
            obtain ⟨j, vs, hj, rfl, hov, hvl, hve, hbr⟩ := hrel
            have hBr : Below w.heap.size w wr := hB13.trans (hbr.mono (by omega))
            have hzr' := hbr.size
            by_cases hlt : j < M.n
            · obtain ⟨_, _, hpp, _, hjl, ck⟩ := text_at tf hbr (Nat.le_refl _) hlt
              cases hpp
              rw [Nat.zero_add] at ck
              have hmem := getD_mem hjl
              have htk : Hid (M.keys.take (j + 1) = M.keys.take j ++ [M.keys.getD j ByteArray.empty]) := take_getD hjl
              have hks := keys_size hinv hmem
              clear hjl hmem
              generalize M.keys.getD j ByteArray.empty = key at *
              have hget := get_map_s b bw bs M key wr (hT.below hBr hw0) (hl13.below hbr (Nat.le_refl _)) hinv.fit hinv.typed hks
              rw [get_val hinv key] at hget
              have hve' : Hid (vs ++ [valK M key] = (M.keys.take (j + 1)).map (valK M)) := by
                show _ = _
                rw [htk.out, List.map_append, hve.out]; rfl
              clear hve htk
              generalize valK M key = vk at *
              generalize (M.get key (.string ⟨#[]⟩)).2 = ok at *
              go_wp2_with fail
              refine hget.mono ?_
              rintro e w14 ⟨rfl, hb14⟩
              clear hget
              have hov14 : OwnsT w14 w13.heap.size _ vs := hov.below hb14 (Nat.le_refl _)
              have hbr14 := hbr.trans (hb14.mono hzr')
              have hz14 := hb14.size
              clear hov hb14 hbr
              go_wp2_with (at_builtin; refine ap_word _ rfl (.tmp 99) (.tmp 101) rfl w13.heap.size _ vs _ rfl rfl hov14 (by omega) (by omega) ?_; intro v' w15 hown' hb')
              go_roundw
              case rel => exact ⟨j + 1, _, by omega, by simp, hown', by simp; omega, hve', hbr14.trans hb'⟩
              case measure => simp only [intOf]; omega
            · obtain rfl : j = M.n := by omega
              have hlW := hl13.below hbr (Nat.le_refl _)
              have hcW := hc13.below hbr (Nat.le_refl _)
              have tfW := tf.below hbr (Nat.le_refl _)
              have weW := we13.below hbr (Nat.le_refl _)
              have hveW : Hid (vs = M.keys.map (valK M)) := by
                show _ = _
                rw [hve.out, List.take_of_length_le (by omega)]
              clear hl13 hc13 tf we13 hbr hve hlt hj hB13
              have hWd : ∃ W, W = wr := ⟨_, rfl⟩
              obtain ⟨W, hW⟩ := hWd
              subst hW
              go_wp2
              go_loopw [106] (fun t wr => ∃ (j cw' cs' : Nat) (C : SM), j ≤ n2 ∧ t = .int .i64 (j : Nat) ∧ Lies 79 76 wr cb cw' cs' C ∧ C.Inv IsV_s ∧ C.n ≤ M.n + j ∧ (cw' = cw ∨ W.heap.size ≤ cw') ∧ (cs' = cs ∨ W.heap.size ≤ cs') ∧ But [cb, cw, cs] W wr) (fun t _ => n2 - (intOf t).toNat)
              case atStart => exact ⟨0, cw, cs, M, by omega, rfl, hcW, hinv, by omega, .inl rfl, .inl rfl, But.refl _ _⟩
              case round =>
                obtain ⟨j, cw', cs', C, hj, rfl, hc, hcinv, hcn, r1, r2, hbut⟩ := hrel
                clear hcW
                have hbz := hbut.size
                have hb : Below w.heap.size w wr := hBr.trans (hbut.below (B := w.heap.size) (by simp; omega) (by omega))
                have hzr2 := hb.size
                by_cases hlt : j < n2
                · obtain ⟨bb, oo, rfl, hbb, hcc, c1, c2', c3, z1, z2⟩ := act_at hY hb hlt
                  generalize ys.getD j default = act at *
                  obtain ⟨kd, ky, vl⟩ := act
                  dsimp only at c1 c2' c3 z1 z2
                  have hBa : Below w.heap.size w (wr.alloc (.cells #[.int .i64 kd, .string ky, .string vl] 33)) := hb.alloc hzr2 _
                  have hza : (wr.alloc (.cells #[.int .i64 kd, .string ky, .string vl] 33)).heap.size = wr.heap.size + 1 := by simp
                  have hla := hc.below (((Below.refl _ wr).alloc (Nat.le_refl _) (.cells #[.int .i64 kd, .string ky, .string vl] 33))) (Nat.le_refl _)
                  have hbuta := hbut.alloc (.cells #[.int .i64 kd, .string ky, .string vl] 33)
                  by_cases hk : kd = 1
                  · subst hk
                    have hdel := delete_any_s cb cw' cs' C ky _ (hT.below hBa hw0) hla (sane_of_inv hcinv) (by omega)
                    obtain ⟨i1, _, _, _, _, i6, _⟩ := inv_del hcinv (key := ky) (z := .string ⟨#[]⟩) (isV_string _)
                    have hn' : (C.del ky (.string ⟨#[]⟩)).2.n ≤ M.n + (j + 1) := by omega
                    clear i6 hcinv hla hc
                    generalize (C.del ky (.string ⟨#[]⟩)).2 = C' at *
                    generalize (C.del ky (.string ⟨#[]⟩)).1 = is at *
                    go_wp2_with fail
                    refine hdel.mono ?_
                    rintro e w15 ⟨rfl, hc15, hbut15⟩
                    have hbn := hbuta.wide hbut15 (by simp; omega)
                    clear hdel
                    go_wp2
                    go_roundw
                    case rel => exact ⟨j + 1, cw', cs', C', by omega, by simp, hc15, i1, hn', r1, r2, hbn⟩
                    case measure => simp only [intOf]; omega
                  · have hput := put_any_s cb cw' cs' C ky (vl ++ { data := #[33] }) _ (hT.below hBa hw0) hla (sane_of_inv hcinv) (by omega)
                    obtain ⟨i1, _, _, i4⟩ := inv_put hcinv (key := ky) (v := .string (vl ++ { data := #[33] })) (z := .string ⟨#[]⟩) (isV_string _) (isV_string _) (by omega)
                    obtain ⟨_, _, i7, _⟩ := i4 (by omega)
                    have hn' : (C.put ky (.string (vl ++ { data := #[33] })) (.string ⟨#[]⟩)).2.2.n ≤ M.n + (j + 1) := by rw [i7]; split <;> omega
                    clear i4 i7 hcinv hla hc
                    generalize (C.put ky (.string (vl ++ { data := #[33] })) (.string ⟨#[]⟩)).2.2 = C' at *
                    generalize (C.put ky (.string (vl ++ { data := #[33] })) (.string ⟨#[]⟩)).2.1 = er at *
                    generalize (C.put ky (.string (vl ++ { data := #[33] })) (.string ⟨#[]⟩)).1 = is at *
                    go_wp2_with fail
                    refine hput.mono ?_
                    rintro e w15 ⟨rfl, cw2, cs2, hc15, hbut15, u1, u2⟩
                    have hbn := hbuta.wide hbut15 (by simp; omega)
                    have r1' : cw2 = cw ∨ W.heap.size ≤ cw2 := by omega
                    have r2' : cs2 = cs ∨ W.heap.size ≤ cs2 := by omega
                    clear hput u1 u2
                    go_wp2
                    go_roundw
                    case rel => exact ⟨j + 1, cw2, cs2, C', by omega, by simp, hc15, i1, hn', r1', r2', hbn⟩
                    case measure => simp only [intOf]; omega
                · obtain rfl : n2 = j := by omega
                  clear hlt hj hc hcinv hcn
                  have hlV := hlW.but hbut (by simp; omega) (by simp; omega) (by simp; omega)
                  have tfV := tfW.but hbut (by simp; omega)
                  have weV := weW.but hbut (by simp; omega)
                  have ovV := hov.but hbut (by simp; omega)
                  have hvT := hasT_owns ovV
                  clear hlW tfW weW ovV hbut r1 r2 hov
                  obtain ⟨pv, cv, hvv, _, _, _⟩ := id hvT
                  rw [hvl] at hvv
                  subst hvv
                  clear hvl
                  have hVd : ∃ V, V = wr := ⟨_, rfl⟩
                  obtain ⟨V, hV⟩ := hVd
                  subst hV
                  go_wp2
                  go_loopw [127] (fun t wr => ∃ j : Nat, j ≤ M.n ∧ t = .int .i64 (j : Nat) ∧ Below V.heap.size V wr) (fun t _ => M.n - (intOf t).toNat)
                  case atStart => exact ⟨0, by omega, rfl, Below.refl _ _⟩
                  case round =>
                    obtain ⟨j, hj, rfl, hbr⟩ := hrel
                    have hzV := hbr.size
                    have hBv : Below w.heap.size w wr := hb.trans (hbr.mono hzr2)
                    have hlv := hlV.below hbr (Nat.le_refl _)
                    by_cases hlt : j < M.n
                    · obtain ⟨_, _, hpp, _, hjl, ck⟩ := text_at tfV hbr (Nat.le_refl _) hlt
                      cases hpp
                      rw [Nat.zero_add] at ck
                      obtain ⟨vb, vo, rfl, hvc, hjv, cvk⟩ := text_at hvT hbr (Nat.le_refl _) hlt
                      rw [hveW.out, getD_map hjl] at cvk
                      have hmem := getD_mem hjl
                      have hks := keys_size hinv hmem
                      have hgh := get_has hinv hmem
                      clear hjl hmem hjv
                      generalize M.keys.getD j ByteArray.empty = key at *
                      have hget := get_map_s b bw bs M key wr (hT.below hBv hw0) hlv hinv.fit hinv.typed hks
                      rw [get_val hinv key, hgh] at hget
                      clear hgh
                      generalize valK M key = vk at *
                      go_wp2_with fail
                      refine hget.mono ?_
                      rintro e w16 ⟨rfl, hb16⟩
                      clear hget
                      have cv16 := (hb16.cell (p := ⟨vb, vo + j, none⟩) (World.block_lt_of_cell? _ _ cvk)).trans cvk
                      have hbr16 := hbr.trans (hb16.mono hzV)
                      go_wp2
                      go_roundw
                      case rel => exact ⟨j + 1, by omega, by simp, hbr16⟩
                      case measure => simp only [intOf]; omega
                    · have weE := weV.below hbr (Nat.le_refl _)
                      have tfE := tfV.below hbr (Nat.le_refl _)
                      obtain rfl : j = M.n := by omega
                      clear hlV tfV weV hvT hbr hj hlt
                      go_wp2_with fail
                      refine (controls_any_s b bw bs M wr hlv hinv.fit).mono ?_
                      rintro e w17 ⟨gg, cg, rfl, hgg, og, hb17⟩
                      have hB17 : Below w.heap.size w w17 := hBv.trans (hb17.mono (by omega))
                      have hl17 := hlv.below hb17 (Nat.le_refl _)
                      have we17 := weE.below hb17 (Nat.le_refl _)
                      have tf17 := tfE.below hb17 (Nat.le_refl _)
                      have wg := hasW_owns og
                      have hz17 := hb17.size
                      clear hlv weE tfE og hb17 hBv
                      go_wp2_with fail
                      refine (words_any _ _ M.ws M.ws w17 wg we17 (by omega) (by omega)).mono ?_
                      rintro e w18 ⟨rfl, hb18⟩
                      have hB18 : Below w.heap.size w w18 := hB17.trans (hb18.mono (by omega))
                      have hl18 := hl17.below hb18 (Nat.le_refl _)
                      have tf18 := tf17.below hb18 (Nat.le_refl _)
                      have hz18 := hb18.size
                      rw [decide_eq_true rfl]
                      clear hl17 we17 tf17 wg hb18 hB17
                      go_wp2_with fail
                      refine (keys_any_s b bw bs M w18 (hT.below hB18 hw0) hl18 hinv.fit hfn).mono ?_
                      rintro e w19 ⟨gh, rfl, hgh, oh, hb19⟩
                      have hB19 : Below w.heap.size w w19 := hB18.trans (hb19.mono (by omega))
                      have tf19 := tf18.below hb19 (Nat.le_refl _)
                      have th := hasT_owns (xs := M.keys) (by rw [hkl]; exact oh)
                      have hz19 := hb19.size
                      clear hl18 tf18 oh hb19 hB18
                      go_wp2_with fail
                      refine (texts_any _ _ M.keys M.keys w19 th tf19 (by omega) (by omega)).mono ?_
                      rintro e w20 ⟨rfl, hb20⟩
                      have hB20 : Below w.heap.size w w20 := hB19.trans (hb20.mono (by omega))
                      rw [decide_eq_true rfl]
                      clear tf19 th hb20 hB19
                      go_wp2_with fail
                      refine (hlives w20 hB20).mono ?_
                      rintro e w21 ⟨rfl, hb21⟩
                      go_wp2
                      go_ret
                      exact ⟨rfl, hB20.trans (hb21.mono hB20.size)⟩
end Go.Proofs.YtkjnifipepiahaaDoor
