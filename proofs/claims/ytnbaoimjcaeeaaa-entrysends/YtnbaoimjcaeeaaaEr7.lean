/-
  The walk of EntrySends.
-/
import Derived.Test.YtnbaoimjcaeeaaaEr6
namespace Go.Proofs.Ytnbaoimjcaeeaaa
open Go.RowKit Go.Shelf

set_option maxRecDepth 100000 in
set_option maxHeartbeats 8000000 in
theorem sends_yes (x : MsgV) (cut : Int) (w : World) (hx : FitsM w x) (hcut : 0 ≤ cut ∧ cut ≤ 18446744073709551615) (hg : goodM10 x.m = true) : Calls Try.prog 6 #[.agg x.arr, .int .u64 cut] w fun e w' => e = .returned (.bool true) ∧ Below w.heap.size w w' := by
  obtain ⟨i0, hi, hz0_, hz1_, hz2_⟩ := info_parts info8c
  have k9 := fun w => lives10_any w
  have hb0 : Below w.heap.size w (w.alloc (.cells x.arr 45)) := (Below.refl _ _).alloc (Nat.le_refl _) _
  have hM0 : MsgAt (w.alloc (.cells x.arr 45)) w.heap.size x := heap_alloc_new w _
  have hz0 := hb0.size
  have kf := few10_any x _ (hx.below hb0)
  have HL : Hid (FewM x → LowM x) := FewM.low
  have HB : Hid (LowM x → ∀ W, Below w.heap.size w W → Calls Try.prog 33 #[.agg x.arr] W fun e w' => ∃ v, e = .returned v ∧ Owns w' W.heap.size 5 v (msgB x.m) ∧ Below W.heap.size W w') := fun hl W h => bytesM_any W x (hx.below h) hl
  have HG : Hid (∀ W, Below w.heap.size w W → Calls Try.prog 31 #[.agg x.arr] W fun e w' => e = .returned (.bool true) ∧ Below W.heap.size W w') := fun W h => by
    have := goodMsg_any x W (hx.below h)
    rwa [hg] at this
  have HLen : Hid (LowM x → (msgB x.m).length ≤ 1000000000) := msgB_len
  have HIs : Hid (IsB (msgB x.m)) := msgB_isB _ hx.sn.b
  have HR : Hid (LowM x → ∀ W v, Has W v (msgB x.m) → Calls Try.prog 32 #[v] W fun e w' => ∃ X : MsgV, e = .returned (.tuple #[.agg X.arr, .int .i64 0]) ∧ X.m = x.m ∧ FitsM w' X ∧ Below W.heap.size W w') := fun hl W v hv => by
    have := readM_any v _ W hv HIs.out (Nat.le_trans (HLen.out hl) (by decide))
    rwa [backM x.m (shortM hx hl) hg] at this
  have HC : Hid (LowM x → ∀ c, c < (msgB x.m).length → ∀ W v, Has W v ((msgB x.m).take c) → Calls Try.prog 32 #[v] W fun e w' => ∃ X : MsgV, e = .returned (.tuple #[.agg X.arr, .int .i64 8]) ∧ Below W.heap.size W w') := fun hl c hc W v hv => by
    have := readM_any v _ W hv (IsB.takeB HIs.out c) (by rw [List.length_take]; have := HLen.out hl; omega)
    rw [cutM x.m (shortM hx hl) hg c hc] at this
    exact this.mono fun e w' ⟨X, h1, _, _, h2⟩ => ⟨X, h1, h2⟩
  have HP : Hid (LowM x → ∀ W v, Has W v (msgB x.m ++ [0]) → Calls Try.prog 32 #[v] W fun e w' => ∃ X : MsgV, e = .returned (.tuple #[.agg X.arr, .int .i64 8]) ∧ Below W.heap.size W w') := fun hl W v hv => by
    have := readM_any v _ W hv (IsB.append HIs.out (IsB.cons (by omega) IsB.nil)) (by rw [List.length_append, List.length_singleton]; have := HLen.out hl; omega)
    rw [moreM x.m (shortM hx hl) hg] at this
    exact this.mono fun e w' ⟨X, h1, _, _, h2⟩ => ⟨X, h1, h2⟩
  have M7 : Hid (∀ W (X : MsgV), FitsM W X → X.m = x.m → Below w.heap.size w W → Calls Try.prog 34 #[.agg X.arr, .agg x.arr] W fun e w' => e = .returned (.bool true) ∧ Below W.heap.size W w') := fun W X h he hb => sameMsg_eq X x W h (hx.below hb) he
  have hpos := msgB_pos x.m
  generalize msgB x.m = bs at *
  generalize x.m = xm at *
  generalize LowM x = FP at *
  generalize FewM x = FM at *
  clear hx hg HIs
  obtain ⟨k, fr, too, t, i, lt, cm, ro, rej, hint, ⟨a, b, e⟩, es, ⟨si, st, ⟨⟨p, n, c⟩, ⟨q, m, d⟩, f⟩, ⟨a', b', e'⟩, dd⟩⟩ := x
  unfold MsgV.arr at *
  dsimp only at *
  go_enter Try.func6, Try.ntmps6
  go_wp2_with fail
  refine kf.mono ?_
  rintro _ w1 ⟨r, rfl, hr, hb1⟩
  have hM1 : MsgAt w1 w.heap.size ⟨k, fr, too, t, i, lt, cm, ro, rej, hint, ⟨a, b, e⟩, es, ⟨si, st, ⟨⟨p, n, c⟩, ⟨q, m, d⟩, f⟩, ⟨a', b', e'⟩, dd⟩⟩ := box_below hM0 hb1
  have hB1 := hb0.trans (hb1.mono hz0)
  have HR0 : Hid (r = true → FM) := hr
  clear kf hM0 hb1 hr hb0
  cases r with
  | false =>
    go_wp2_with fail
    refine (k9 _).mono ?_
    rintro _ w3 ⟨rfl, hb3⟩
    have hB3 := hB1.trans (hb3.mono hB1.size)
    go_wp2
    go_ret
    exact ⟨rfl, hB3⟩
  | true =>
    have hl := HL.out (HR0.out rfl)
    have M1 : Hid _ := HB.out hl
    have M2 : Hid _ := HR.out hl
    have hlen := HLen.out hl
    clear HB HR HLen HL HR0
    obtain ⟨c0, c1, c2, c3, c4, c5, c6, c7, c8, c9, c10, c11, c12, c13, c14, c15⟩ := hM1.cells
    dsimp only at c0 c1 c2 c3 c4 c5 c6 c7 c8 c9 c10 c11 c12 c13 c14 c15
    have hl1 := box_lt hM1
    have k1 := HG.out w1 hB1
    as_aux_lemma =>
      go_wp2_with fail
      refine k1.mono ?_
      rintro _ w2 ⟨rfl, hb2⟩
      have hM2 : MsgAt w2 w.heap.size ⟨k, fr, too, t, i, lt, cm, ro, rej, hint, ⟨a, b, e⟩, es, ⟨si, st, ⟨⟨p, n, c⟩, ⟨q, m, d⟩, f⟩, ⟨a', b', e'⟩, dd⟩⟩ := box_below hM1 hb2
      have hB2 := hB1.trans (hb2.mono hB1.size)
      clear k1 hM1 hB1 hb2 hl1 c0 c1 c2 c3 c4 c5 c6 c7 c8 c9 c10 c11 c12 c13 c14 c15
      obtain ⟨c0, c1, c2, c3, c4, c5, c6, c7, c8, c9, c10, c11, c12, c13, c14, c15⟩ := hM2.cells
      dsimp only at c0 c1 c2 c3 c4 c5 c6 c7 c8 c9 c10 c11 c12 c13 c14 c15
      have hl2 := box_lt hM2
      have k2 := M1.out w2 hB2
      have M3 : Hid _ := HC.out hl
      have M4 : Hid _ := HP.out hl
      clear HC HP
      as_aux_lemma =>
        go_wp2_with fail
        refine k2.mono ?_
        rintro _ w3 ⟨v3, rfl, ho3, hb3⟩
        have hM3 : MsgAt w3 w.heap.size ⟨k, fr, too, t, i, lt, cm, ro, rej, hint, ⟨a, b, e⟩, es, ⟨si, st, ⟨⟨p, n, c⟩, ⟨q, m, d⟩, f⟩, ⟨a', b', e'⟩, dd⟩⟩ := box_below hM2 hb3
        have hB3 := hB2.trans (hb3.mono hB2.size)
        obtain ⟨g, cap, rfl, hBg, hgw, hcap, hcl, hfr⟩ := ho3.form hpos
        have k3 := M2.out w3 _ ho3.has
        have HO3 : Hid (Owns w3 w2.heap.size 5 (.slice (some ⟨g, 0, none⟩) bs.length cap) bs) := ho3
        generalize hN : bs.length = N at *
        have HN : Hid (bs.length = N) := hN
        clear k2 hM2 hb3 hl2 c0 c1 c2 c3 c4 c5 c6 c7 c8 c9 c10 c11 c12 c13 c14 c15 ho3 hN hBg hcl hfr M1 M2
        obtain ⟨qq, hq, hql⟩ : ∃ qq : Nat, cut % (N : Int) = (qq : Int) ∧ qq < N := by
          have h1 := Int.emod_nonneg cut (show (N : Int) ≠ 0 by omega)
          have h2 := Int.emod_lt_of_pos cut (show 0 < (N : Int) by omega)
          exact ⟨(cut % (N : Int)).toNat, by omega, by omega⟩
        have hqc : qq ≤ cap := by omega
        go_wp2_with fail
        refine k3.mono ?_
        rintro _ w4 ⟨X, rfl, hX, fX, hb4⟩
        have HX : Hid (X.m = xm) := hX
        have hM4 : MsgAt w4 w.heap.size ⟨k, fr, too, t, i, lt, cm, ro, rej, hint, ⟨a, b, e⟩, es, ⟨si, st, ⟨⟨p, n, c⟩, ⟨q, m, d⟩, f⟩, ⟨a', b', e'⟩, dd⟩⟩ := box_below hM3 hb4
        have hB4 := hB3.trans (hb4.mono hB3.size)
        have hba : Below w4.heap.size w4 (w4.alloc (.cells X.arr 45)) := (Below.refl _ _).alloc (Nat.le_refl _) _
        have hbX : MsgAt (w4.alloc (.cells X.arr 45)) w4.heap.size X := heap_alloc_new w4 _
        have hM5 := box_below hM4 hba
        have fX5 := fX.below hba
        have hB5 := hB4.trans (hba.mono hB4.size)
        have HO5 : Hid (Owns (w4.alloc (.cells X.arr 45)) w2.heap.size 5 (.slice (some ⟨g, 0, none⟩) N cap) bs) := (HO3.out.below hb4 (Nat.le_refl _)).below hba (Nat.le_refl _)
        have hgw5 : g < (w4.alloc (.cells X.arr 45)).heap.size := by have := hb4.size; have := hba.size; omega
        have M8 : Hid (∀ W, FitsM W X → Below w.heap.size w W → Calls Try.prog 34 #[.agg X.arr, .agg #[.int .i64 k, .int .i64 fr, .int .i64 too, .int .i64 t, .int .i64 i, .int .i64 lt, .int .i64 cm, .int .i64 ro, .bool rej, .int .i64 hint, .slice a b e, .int .i64 si, .int .i64 st, .slice p n c, .slice q m d, .slice a' b' e']] W fun e w' => e = .returned (.bool true) ∧ Below W.heap.size W w') := fun W h hb => M7.out W X h HX.out hb
        have FX : Hid (FitsM (w4.alloc (.cells X.arr 45)) X) := fX5
        clear k3 hX hb4 hB3 hB4 hM3 hM4 fX fX5 M7 hba HX HO3 hgw
        obtain ⟨xk, xfr, xtoo, xt, xi, xlt, xcm, xro, xrej, xhint, ⟨xa, xb, xe⟩, xes, ⟨xsi, xst, ⟨⟨xp, xn, xc⟩, ⟨xq, xm, xd⟩, xf⟩, ⟨xa', xb', xe'⟩, xdd⟩⟩ := X
        unfold MsgV.arr at *
        dsimp only at *
        as_aux_lemma =>
          go_upto_region 8 with fail
          generalize w4.alloc (.cells #[.int .i64 xk, .int .i64 xfr, .int .i64 xtoo, .int .i64 xt, .int .i64 xi, .int .i64 xlt, .int .i64 xcm, .int .i64 xro, .bool xrej, .int .i64 xhint, .slice xa xb xe, .int .i64 xsi, .int .i64 xst, .slice xp xn xc, .slice xq xm xd, .slice xa' xb' xe'] 45) = w5 at *
          replace hbX : MsgAt w5 w4.heap.size ⟨xk, xfr, xtoo, xt, xi, xlt, xcm, xro, xrej, xhint, ⟨xa, xb, xe⟩, xes, ⟨xsi, xst, ⟨⟨xp, xn, xc⟩, ⟨xq, xm, xd⟩, xf⟩, ⟨xa', xb', xe'⟩, xdd⟩⟩ := hbX
          replace hM5 : MsgAt w5 w.heap.size ⟨k, fr, too, t, i, lt, cm, ro, rej, hint, ⟨a, b, e⟩, es, ⟨si, st, ⟨⟨p, n, c⟩, ⟨q, m, d⟩, f⟩, ⟨a', b', e'⟩, dd⟩⟩ := hM5
          generalize w4.heap.size = bX at *
          as_aux_lemma =>
            have k5 := M3.out qq hql w5 (.slice (some ⟨g, 0, none⟩) qq cap) (HO5.out.has.takeN qq (by rw [HN.out]; omega))
            go_wp2_with fail
            refine k5.mono ?_
            rintro _ w6 ⟨Y, rfl, hb6⟩
            have hM6 : MsgAt w6 w.heap.size ⟨k, fr, too, t, i, lt, cm, ro, rej, hint, ⟨a, b, e⟩, es, ⟨si, st, ⟨⟨p, n, c⟩, ⟨q, m, d⟩, f⟩, ⟨a', b', e'⟩, dd⟩⟩ := box_below hM5 hb6
            have hX6 : MsgAt w6 bX ⟨xk, xfr, xtoo, xt, xi, xlt, xcm, xro, xrej, xhint, ⟨xa, xb, xe⟩, xes, ⟨xsi, xst, ⟨⟨xp, xn, xc⟩, ⟨xq, xm, xd⟩, xf⟩, ⟨xa', xb', xe'⟩, xdd⟩⟩ := box_below hbX hb6
            have hB6 := hB5.trans (hb6.mono hB5.size)
            have hba : Below w6.heap.size w6 (w6.alloc (.cells Y.arr 45)) := (Below.refl _ _).alloc (Nat.le_refl _) _
            have hM7 : MsgAt _ w.heap.size ⟨k, fr, too, t, i, lt, cm, ro, rej, hint, ⟨a, b, e⟩, es, ⟨si, st, ⟨⟨p, n, c⟩, ⟨q, m, d⟩, f⟩, ⟨a', b', e'⟩, dd⟩⟩ := box_below hM6 hba
            have hX7 : MsgAt _ bX ⟨xk, xfr, xtoo, xt, xi, xlt, xcm, xro, xrej, xhint, ⟨xa, xb, xe⟩, xes, ⟨xsi, xst, ⟨⟨xp, xn, xc⟩, ⟨xq, xm, xd⟩, xf⟩, ⟨xa', xb', xe'⟩, xdd⟩⟩ := box_below hX6 hba
            have hB7 := hB6.trans (hba.mono hB6.size)
            have HO7 : Hid (Owns (w6.alloc (.cells Y.arr 45)) w2.heap.size 5 (.slice (some ⟨g, 0, none⟩) N cap) bs) := (HO5.out.below hb6 (Nat.le_refl _)).below hba (Nat.le_refl _)
            have FX7 : Hid (FitsM (w6.alloc (.cells Y.arr 45)) ⟨xk, xfr, xtoo, xt, xi, xlt, xcm, xro, xrej, xhint, ⟨xa, xb, xe⟩, xes, ⟨xsi, xst, ⟨⟨xp, xn, xc⟩, ⟨xq, xm, xd⟩, xf⟩, ⟨xa', xb', xe'⟩, xdd⟩⟩) := (FX.out.below hb6).below hba
            clear k5 hM5 hbX hb6 hB5 hB6 hM6 hX6 hba HO5 FX M3 hq hql hqc
            obtain ⟨yk, yfr, ytoo, yt, yi, ylt, ycm, yro, yrej, yhint, ⟨ya, yb, ye⟩, yes, ⟨ysi, yst, ⟨⟨yp, yn, yc⟩, ⟨yq, ym, yd⟩, yf⟩, ⟨ya', yb', ye'⟩, ydd⟩⟩ := Y
            unfold MsgV.arr at *
            dsimp only at *
            as_aux_lemma =>
              go_upto_region 9 with fail
              generalize w6.alloc (.cells #[.int .i64 yk, .int .i64 yfr, .int .i64 ytoo, .int .i64 yt, .int .i64 yi, .int .i64 ylt, .int .i64 ycm, .int .i64 yro, .bool yrej, .int .i64 yhint, .slice ya yb ye, .int .i64 ysi, .int .i64 yst, .slice yp yn yc, .slice yq ym yd, .slice ya' yb' ye'] 45) = w7 at *
              clear hgw5
              as_aux_lemma =>
                go_wp2_with (first
                  | (at_builtin; refine ap_slice _ rfl (.tmp 56) (.tmp 57) 34 rfl w7.heap.size 5 i0 Try.underlying34 hi hz0_ hz1_ hz2_ _ [] bs rfl (by exact HO7.out.has.below ((Below.refl w7.heap.size w7).alloc (Nat.le_refl _) _) (Nat.le_refl _)) (by exact Owns.empty w7 w7.heap.size _ (Nat.le_refl _)) (by simp) (by rw [HN.out]; omega) (by simp) ?_; intro v8 w8 ho8 hb8; rw [List.nil_append] at ho8)
                  | (at_builtin; refine ap_slice _ rfl (.tmp 58) (.tmp 59) 34 rfl w7.heap.size 5 i0 Try.underlying34 hi hz0_ hz1_ hz2_ _ bs [0] rfl (by exact Has.lit w8 [0] 5) (by exact ho8.below ((Below.refl w8.heap.size w8).alloc (Nat.le_refl _) _) (Nat.le_refl _)) (by rw [HN.out]; omega) (by simp) (by have := hb8.size; simp at this ⊢; omega) ?_; intro v9 w9 ho9 hb9))
                have hb79 : Below w7.heap.size w7 w9 := ((((Below.refl w7.heap.size w7).alloc (Nat.le_refl _) _).trans hb8).alloc (by have := hb8.size; simp at this; omega) _).trans hb9
                refine (M4.out w9 v9 ho9.has).mono ?_
                rintro _ y1 ⟨Z, rfl, hby⟩
                have hb71 : Below w7.heap.size w7 y1 := hb79.trans (hby.mono hb79.size)
                have hba : Below y1.heap.size y1 (y1.alloc (.cells Z.arr 45)) := (Below.refl _ _).alloc (Nat.le_refl _) _
                have hb72 := hb71.trans (hba.mono hb71.size)
                have hM9 : MsgAt _ w.heap.size ⟨k, fr, too, t, i, lt, cm, ro, rej, hint, ⟨a, b, e⟩, es, ⟨si, st, ⟨⟨p, n, c⟩, ⟨q, m, d⟩, f⟩, ⟨a', b', e'⟩, dd⟩⟩ := box_below hM7 hb72
                have hX9 : MsgAt _ bX ⟨xk, xfr, xtoo, xt, xi, xlt, xcm, xro, xrej, xhint, ⟨xa, xb, xe⟩, xes, ⟨xsi, xst, ⟨⟨xp, xn, xc⟩, ⟨xq, xm, xd⟩, xf⟩, ⟨xa', xb', xe'⟩, xdd⟩⟩ := box_below hX7 hb72
                have hB9 := hB7.trans (hb72.mono hB7.size)
                have k9' := M8.out _ (FX7.out.below hb72) hB9
                clear ho8 hb8 ho9 hb9 hb79 hby hb71 hba hb72 hM7 hX7 hB7 HO7 FX7 M4 M8
                obtain ⟨zk, zfr, ztoo, zt, zi, zlt, zcm, zro, zrej, zhint, ⟨za, zb, ze⟩, zes, ⟨zsi, zst, ⟨⟨zp, zn, zc⟩, ⟨zq, zm, zd⟩, zf⟩, ⟨za', zb', ze'⟩, zdd⟩⟩ := Z
                unfold MsgV.arr at *
                dsimp only at *
                as_aux_lemma =>
                  go_upto_region 10 with fail
                  generalize y1.alloc (.cells #[.int .i64 zk, .int .i64 zfr, .int .i64 ztoo, .int .i64 zt, .int .i64 zi, .int .i64 zlt, .int .i64 zcm, .int .i64 zro, .bool zrej, .int .i64 zhint, .slice za zb ze, .int .i64 zsi, .int .i64 zst, .slice zp zn zc, .slice zq zm zd, .slice za' zb' ze'] 45) = y2 at *
                  obtain ⟨c0, c1, c2, c3, c4, c5, c6, c7, c8, c9, c10, c11, c12, c13, c14, c15⟩ := hM9.cells
                  dsimp only at c0 c1 c2 c3 c4 c5 c6 c7 c8 c9 c10 c11 c12 c13 c14 c15
                  obtain ⟨d0, d1, d2, d3, d4, d5, d6, d7, d8, d9, d10, d11, d12, d13, d14, d15⟩ := hX9.cells
                  dsimp only at d0 d1 d2 d3 d4 d5 d6 d7 d8 d9 d10 d11 d12 d13 d14 d15
                  have hlM := box_lt hM9
                  have hlX := box_lt hX9
                  as_aux_lemma =>
                    go_wp2_with fail
                    refine k9'.mono ?_
                    rintro _ y3 ⟨rfl, hb3⟩
                    have hBA := hB9.trans (hb3.mono hB9.size)
                    go_wp2_with fail
                    refine (k9 _).mono ?_
                    rintro _ y4 ⟨rfl, hb4⟩
                    have hBC := hBA.trans (hb4.mono hBA.size)
                    go_wp2
                    go_ret
                    exact ⟨rfl, hBC⟩

theorem sends_walk (x : MsgV) (cut : Int) (w : World) (hx : FitsM w x) (hcut : 0 ≤ cut ∧ cut ≤ 18446744073709551615) : Calls Try.prog 6 #[.agg x.arr, .int .u64 cut] w fun e w' => e = .returned (.bool true) ∧ Below w.heap.size w w' := by
  cases hg : goodM10 x.m with
  | false => exact sends_no x cut w hx hg
  | true => exact sends_yes x cut w hx hcut hg
end Go.Proofs.Ytnbaoimjcaeeaaa
