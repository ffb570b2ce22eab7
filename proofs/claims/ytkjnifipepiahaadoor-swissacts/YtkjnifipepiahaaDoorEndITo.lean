import Derived.Test.YtkjnifipepiahaaDoorRM3To
import Derived.Test.YtkjnifipepiahaaDoorSwIsTo
import Derived.Test.YtkjnifipepiahaaDoorSwB2To
import Derived.Test.YtkjnifipepiahaaDoorSwPTo
/-
  Contracts: corbelref05's Delete.
-/
namespace Go.Proofs.YtkjnifipepiahaaDoor
open Go.RowKit Go.Shelf

set_option maxRecDepth 100000 in
set_option maxHeartbeats 4000000 in
theorem rdelete_any (b bw bs : Nat) (M : SM) (key : ByteArray) (w : World) (h : Lies 85 82 w b bw bs M) (hS : M.Sane IsV_s) (hk : key.size < 140737488355328) :
    Calls Tryd.prog 16 #[.pointer (some ⟨b, 0, none⟩), .string key] w fun e w' => e = .returned (.bool (M.del key (.string ⟨#[]⟩)).1) ∧ Lies 85 82 w' b bw bs (M.del key (.string ⟨#[]⟩)).2 ∧ But [b, bw, bs] w w' := by
  have hF := hS.fit
  have hr := good_range hF.good
  have hfew := hF.few
  have hfind := rfind_any b bw bs M key w h hF hk
  cases hfd : M.find key with
  | none =>
    have hdel : M.del key (.string ⟨#[]⟩) = (false, M) := by unfold SM.del; rw [hfd]
    rw [hdel]
    rw [hfd] at hfind
    clear hfd hdel
    go_enter Tryd.func16, Tryd.ntmps16
    go_wp2_with fail
    refine hfind.mono ?_
    rintro e w1 ⟨rfl, hb⟩
    clear hfind
    go_wp2
    go_ret
    exact ⟨rfl, h.below hb (Nat.le_refl _), But.of_below hb (Nat.le_refl _)⟩
  | some p =>
    obtain ⟨hp1, hp2, hp3, hkey⟩ := find_some hF hfd
    clear hkey
    have hwl := M.what_lt key
    have hn1 : 1 ≤ M.n := hS.some (p / 8) (p % 8) hp2 (Nat.mod_lt _ (by decide)) (by omega)
    obtain ⟨g, i, rfl, hi⟩ : ∃ g i, p = 8 * g + i ∧ i < 8 := ⟨p / 8, p % 8, by omega, Nat.mod_lt _ (by decide)⟩
    have hdel : M.del key (.string ⟨#[]⟩) = (true, { M with ws := M.ws.set g (putN (M.w g) i (if hasE (M.w g) then 128 else 254)), ss := M.ss.set (8 * g + i) (ByteArray.empty, (.string ⟨#[]⟩)), n := M.n - 1, t := if hasE (M.w g) then M.t else M.t + 1 }) := by
      unfold SM.del; rw [hfd]; simp only
      rw [show (8 * g + i) / 8 = g by omega, show (8 * g + i) % 8 = i by omega]
    rw [hdel]
    rw [show (8 * g + i) / 8 = g by omega] at hp2
    rw [hfd] at hfind
    simp only [Int.natCast_add, Int.natCast_mul, Int.cast_ofNat_Int] at hfind
    have hE := hasE_match (M.w g)
    have hwd := hF.words g hp2
    clear hfd hdel hp3
    generalize hwd0 : M.w g = wd at *
    have h8 : (8 * (g : Int) + i) / 8 = g := by omega
    have h9 : (8 * (g : Int) + i) % 8 = i := by omega
    have hs8 := hF.slots
    have hi1 : 8 * (g : Int) + i < M.ss.length := by omega
    have hi0 : 8 * (g : Int) + i ≠ -1 := by omega
    have hi2 : ¬ (8 * (g : Int) + i) < 0 := by omega
    have hm2 := matchN_lt wd 128
    have hwd1 : Hid (M.w g = wd) := hwd0
    by_cases hem : matchN wd 128 = 0
    · have hE' : hasE wd = false := by rw [hE, decide_eq_true hem]; rfl
      clear hE
      simp only [hE', Bool.false_eq_true, if_false]
      clear hE'
      have hd254 : (254 : Nat) < 256 := by decide
      go_enter Tryd.func16, Tryd.ntmps16
      go_wp2_with fail
      refine hfind.mono ?_
      rintro e w1 ⟨rfl, hb⟩
      have hl := h.below hb (Nat.le_refl _)
      obtain ⟨dw, ds, _, _, k2, k3, k4, k5, hdw, hds⟩ := hl.cells
      have kw := hl.word g hp2
      rw [hwd0] at kw
      have f5 := hl.free 5
      have hbut : But [b, bw, bs] w w1 := But.of_below hb (Nat.le_refl _)
      clear hfind hs8 hwd0
      go_wp2_with (go_at_call 26; refine same_mono (rmatch_any wd 128 _ hwd) ?_; rw [hem])
      have L1 := hl.setT (M.t + 1)
      rw [show ((M.t + 1 : Nat) : Int) = (M.t : Int) + 1 by omega] at L1
      replace hbut := hbut.setCell (p := ⟨b, 5, none⟩) (.inl (by simp)) (.int .i64 ((M.t : Int) + 1))
      clear k2 k3 k4 k5 f5 hl kw
      generalize w1.setCell ⟨b, 5, none⟩ (.int .i64 ((M.t : Int) + 1)) = w2 at *
      obtain ⟨M1, hM10⟩ : ∃ M1 : SM, M1 = { M with t := M.t + 1 } := ⟨_, rfl⟩
      have hM1 : M1.w g = wd := by rw [hM10]; exact hwd1.out
      have hM1n : M1.n = M.n := by rw [hM10]
      rw [← hM10] at L1
      have hp1' : 8 * g + i < M1.ss.length := by rw [hM10]; exact hp1
      have hp2' : g < M1.ws.length := by rw [hM10]; exact hp2
      obtain ⟨w1', s1', _, _, m2, m3, m4, m5, hw1, hs1⟩ := L1.cells
      have hne := L1.ne
      have fw := L1.freeW g
      have kw1 := L1.word g hp2'
      have hM1w : M1.w g = wd := hM1
      rw [hM1w] at kw1
      have ks1 := L1.key (8 * g + i) hp1'
      have ks2 := L1.val (8 * g + i) hp1'
      have fs1 := L1.freeS ((8 * g + i) * 2)
      have fs2 := L1.freeS ((8 * g + i) * 2 + 1)
      have fn1 := L1.free 4
      have hj1 : 8 * (g : Int) + i < M1.ss.length := by omega
      have hj2 : M1.n ≤ 1099511627776 := by rw [hM1n]; omega
      have hni : Hid (((M1.n - 1 : Nat) : Int) = (M1.n : Int) - 1) := by
        show _ = _
        rw [hM1n]; omega
      have HM10 : Hid (M1 = _) := hM10
      clear hM10 hM1 hM1n hM1w h8 hi0 hi2
      refine wp_last (by kernel_rfl) (by kernel_rfl) ?_
      dsimp only [initL, lastL]
      repeat (go_big_quiet_step ((go_at_call 60; exact Calls.quiet_of_same (rset_any wd (8 * (g : Int) + i) i 254 h9 _ hwd (by omega)))))
      refine wpQuiet_nil ?_
      rintro _ ⟨nq, rfl⟩
      gi_wp2
      have L2 := (L1.drewN nq).setW g (putN wd i 254)
      have hbut2 := (hbut.drewN nq).setCell (p := ⟨bw, g, none⟩) (.inl (by simp)) (.int .u64 ((putN wd i 254 : Nat) : Int))
      generalize (w2.drewN nq).setCell ⟨bw, g, none⟩ (.int .u64 ((putN wd i 254 : Nat) : Int)) = w3 at *
      obtain ⟨w1'', s1'', _, _, n2, n3, n4, n5, _, _⟩ := L2.cells
      have ks1' := L2.key (8 * g + i) hp1'
      have ks2' := L2.val (8 * g + i) hp1'
      have fs1' := L2.freeS ((8 * g + i) * 2)
      have fs2' := L2.freeS ((8 * g + i) * 2 + 1)
      have fn1' := L2.free 4
      clear m2 m3 m4 m5 ks1 ks2 fs1 fs2 fn1 fw kw1 hw1 hs1 hbut
      go_wp2
      go_ret
      refine ⟨rfl, ?_, ?_⟩
      · have hfin := (L2.setS (8 * g + i) ByteArray.empty (.string ⟨#[]⟩)).setN (M1.n - 1)
        rw [hni.out] at hfin
        have hM10 := HM10.out
        subst hM10
        exact hfin
      · exact (((hbut2.setCell (p := ⟨bs, (8 * g + i) * 2, none⟩) (.inl (by simp)) _).setCell (p := ⟨bs, (8 * g + i) * 2 + 1, none⟩) (.inl (by simp)) _).setCell (p := ⟨b, 4, none⟩) (.inl (by simp)) _)
    · have hE' : hasE wd = true := by rw [hE, decide_eq_false hem]; rfl
      clear hE
      simp only [hE', if_true]
      clear hE'
      have hem' : (matchN wd 128 : Int) ≠ 0 := by omega
      go_enter Tryd.func16, Tryd.ntmps16
      go_wp2_with fail
      refine hfind.mono ?_
      rintro e w1 ⟨rfl, hb⟩
      have hl := h.below hb (Nat.le_refl _)
      obtain ⟨dw, ds, _, _, k2, k3, k4, k5, hdw, hds⟩ := hl.cells
      have kw := hl.word g hp2
      rw [hwd0] at kw
      have f5 := hl.free 5
      have hbut : But [b, bw, bs] w w1 := But.of_below hb (Nat.le_refl _)
      clear hfind hs8 hwd0
      go_wp2_with (go_at_call 26; refine same_mono (rmatch_any wd 128 _ hwd) ?_)
      have L1 := hl
      clear k2 k3 k4 k5 f5 hl kw
      obtain ⟨M1, hM10⟩ : ∃ M1 : SM, M1 = M := ⟨_, rfl⟩
      have hM1 : M1.w g = wd := by rw [hM10]; exact hwd1.out
      have hM1n : M1.n = M.n := by rw [hM10]
      rw [← hM10] at L1
      have hp1' : 8 * g + i < M1.ss.length := by rw [hM10]; exact hp1
      have hp2' : g < M1.ws.length := by rw [hM10]; exact hp2
      obtain ⟨w1', s1', _, _, m2, m3, m4, m5, hw1, hs1⟩ := L1.cells
      have hne := L1.ne
      have fw := L1.freeW g
      have kw1 := L1.word g hp2'
      have hM1w : M1.w g = wd := hM1
      rw [hM1w] at kw1
      have ks1 := L1.key (8 * g + i) hp1'
      have ks2 := L1.val (8 * g + i) hp1'
      have fs1 := L1.freeS ((8 * g + i) * 2)
      have fs2 := L1.freeS ((8 * g + i) * 2 + 1)
      have fn1 := L1.free 4
      have hj1 : 8 * (g : Int) + i < M1.ss.length := by omega
      have hj2 : M1.n ≤ 1099511627776 := by rw [hM1n]; omega
      have hni : Hid (((M1.n - 1 : Nat) : Int) = (M1.n : Int) - 1) := by
        show _ = _
        rw [hM1n]; omega
      have HM10 : Hid (M1 = _) := hM10
      clear hM10 hM1 hM1n hM1w h8 hi0 hi2
      refine wp_last (by kernel_rfl) (by kernel_rfl) ?_
      dsimp only [initL, lastL]
      repeat (go_big_quiet_step ((go_at_call 60; exact Calls.quiet_of_same (rset_any wd (8 * (g : Int) + i) i 128 h9 _ hwd (by omega)))))
      refine wpQuiet_nil ?_
      rintro _ ⟨nq, rfl⟩
      gi_wp2
      have L2 := (L1.drewN nq).setW g (putN wd i 128)
      have hbut2 := (hbut.drewN nq).setCell (p := ⟨bw, g, none⟩) (.inl (by simp)) (.int .u64 ((putN wd i 128 : Nat) : Int))
      generalize (w1.drewN nq).setCell ⟨bw, g, none⟩ (.int .u64 ((putN wd i 128 : Nat) : Int)) = w3 at *
      obtain ⟨w1'', s1'', _, _, n2, n3, n4, n5, _, _⟩ := L2.cells
      have ks1' := L2.key (8 * g + i) hp1'
      have ks2' := L2.val (8 * g + i) hp1'
      have fs1' := L2.freeS ((8 * g + i) * 2)
      have fs2' := L2.freeS ((8 * g + i) * 2 + 1)
      have fn1' := L2.free 4
      clear m2 m3 m4 m5 ks1 ks2 fs1 fs2 fn1 fw kw1 hw1 hs1 hbut
      go_wp2
      go_ret
      refine ⟨rfl, ?_, ?_⟩
      · have hfin := (L2.setS (8 * g + i) ByteArray.empty (.string ⟨#[]⟩)).setN (M1.n - 1)
        rw [hni.out] at hfin
        have hM10 := HM10.out
        subst hM10
        exact hfin
      · exact (((hbut2.setCell (p := ⟨bs, (8 * g + i) * 2, none⟩) (.inl (by simp)) _).setCell (p := ⟨bs, (8 * g + i) * 2 + 1, none⟩) (.inl (by simp)) _).setCell (p := ⟨b, 4, none⟩) (.inl (by simp)) _)
end Go.Proofs.YtkjnifipepiahaaDoor

/-
  Contracts: corbelref05's lay.
-/
namespace Go.Proofs.YtkjnifipepiahaaDoor
open Go.RowKit Go.Shelf

set_option maxRecDepth 100000 in
set_option maxHeartbeats 4000000 in
theorem rlay_any (b bw bs : Nat) (M : SM) (key sv : ByteArray) (w : World) (h : Lies 85 82 w b bw bs M) (hF : M.Fit) (hk : key.size < 140737488355328)
    (ht : ∀ g i, g < M.ws.length → i < 8 → byteN (M.w g) i = 254 → 1 ≤ M.t) :
    Calls Tryd.prog 57 #[.pointer (some ⟨b, 0, none⟩), .string key, .string sv] w fun e w' => (∃ u, e = .returned u) ∧ Lies 85 82 w' b bw bs (M.place key (.string sv)) ∧ But [b, bw, bs] w w' := by
  obtain ⟨cw, cs, c0, c1, c2, c3, c4, c5, hcw, hcs⟩ := h.cells
  have hr := good_range hF.good
  have hfew := hF.few
  obtain ⟨X, H, hH0, hH1, hgs, hsum, hsplit⟩ := rhash_at M key hF hk
  have hwhat := M.what_lt key
  go_enter Tryd.func57, Tryd.ntmps57
  go_wp2_with fail
  apply world_end (fun Y => Below w.heap.size w Y)
  · go_region_with (first
      | (go_at_call 88; refine (hsum _).mono ?_; rintro e w1 ⟨rfl, hb1⟩)
      | (go_at_call 87; refine same_mono (hsplit _) ?_))
    all_goals exact EndW.mk (below_on hb1)
  · intro w1 hb1
    clear hsum hsplit
    have hl1 := h.below hb1 (Nat.le_refl _)
    obtain ⟨cw', cs', _, _, d2, d3, _, _, hcw', hcs'⟩ := hl1.cells
    go_wp2_with fail
    refine (rseq_any H M.ws.length w1 hH0 hH1 (by omega) (by omega)).mono ?_
    rintro e w2 ⟨v, rfl, hown, hb2⟩
    have hB2 : Below w.heap.size w w2 := hb1.trans (hb2.mono hb1.size)
    have hl2 := h.below hB2 (Nat.le_refl _)
    obtain ⟨cw2, cs2, _, _, f2, f3, f4, f5, hcw2, hcs2⟩ := hl2.cells
    rw [hgs] at hown
    have hrow := hown.has
    obtain ⟨p, c, hv, hpc, _, _⟩ := id hrow
    rw [List.length_map] at hv hpc
    subst hv
    clear c0 c1 c2 c3 c4 c5 d2 d3 hl1 hown hb2 hgs hH0 hH1 hcw' hcs' hcw hcs
    have hspot : Hid (M.spot (M.gs key) = M.spot ((M.gs key).drop 0)) := by show _ = _; rw [List.drop_zero]
    have hgl := SM.gs_lt hF key
    have hgn : (M.gs key).length ≤ 1024 := by unfold SM.gs; rw [List.length_map]; exact grp_len _ _
    have hpl0 : Hid (M.place key (.string sv) = match M.spot (M.gs key) with | none => M | some (g, i) => M.lay key (.string sv) g i) := rfl
    generalize hspk : M.spot (M.gs key) = sp at *
    clear hspk
    generalize M.gs key = gs at *
    go_wp2
    go_loopw [33] (fun t wr => ∃ j : Nat, j ≤ gs.length ∧ t = .int .i64 (j : Nat) ∧ Hid (sp = M.spot (gs.drop j)) ∧ wr = w2) (fun t _ => gs.length - (intOf t).toNat)
    case atStart => exact ⟨0, by omega, rfl, hspot, rfl⟩
    case round =>
      obtain ⟨j, hj, rfl, hsj, rfl⟩ := hrel
      clear hspot
      by_cases hlt : j < gs.length
      · obtain ⟨pb, po, rfl, _, cg⟩ := int_at hrow hlt
        have hdrop : Hid (gs.drop j = gs.getD j 0 :: gs.drop (j + 1)) := drop_getD hlt
        have hg := hgl (gs.getD j 0) (by rw [List.getD_eq_getElem?_getD, List.getElem?_eq_getElem hlt]; exact List.getElem_mem hlt)
        generalize gs.getD j 0 = g at *
        have kw := hl2.word g hg
        have hwl := hF.words g hg
        have hssl := hF.slots
        have ht' := ht g
        generalize hwd : M.w g = wd at *
        replace hwd : Hid (M.w g = wd) := hwd
        have hfl := freeN_lt wd
        by_cases hfr : freeN wd = 0
        · have hnone := free_none hfr
          have hs' : Hid (sp = M.spot (gs.drop (j + 1))) := by
            show _ = _
            rw [hsj.out, hdrop.out, SM.spot, hwd.out, hnone]
          clear hnone
          go_wp2_with fail
          refine same_mono (rfree_any wd _ hwl) ?_
          go_wp2_with fail
          refine same_mono (rfirst_any 0 _ (by decide)) ?_
          rw [show firstN 0 = 8 by decide]
          go_wp2
          go_roundw
          case rel => exact ⟨j + 1, by omega, by simp, hs', trivial⟩
          case measure => simp only [intOf]; omega
        · obtain ⟨hsome, hf8⟩ := free_some hfr
          have hpl : Hid (M.place key (.string sv) = M.lay key (.string sv) g (firstN (freeN wd))) := by
            show _ = _
            rw [hpl0.out, hsj.out, hdrop.out, SM.spot, hwd.out, hsome]
          have hbut : But [b, bw, bs] w wr := But.of_below hB2 (Nat.le_refl _)
          clear hsome
          go_wp2_with fail
          refine same_mono (rfree_any wd _ hwl) ?_
          go_wp2_with fail
          refine same_mono (rfirst_any _ _ hfl) ?_
          generalize firstN (freeN wd) = f at *
          have hf8' : ((f : Int) == 8) = false := by simp; omega
          have hdel := ht' f hg hf8
          clear ht' hfr hfl hdrop hsj hpl0
          go_wp2_with fail
          refine same_mono (rget_at wd f rfl hf8 _ hwl) ?_
          have hlay : Hid (M.lay key (.string sv) g f = { M with ws := M.ws.set g (putN wd f (M.what key)), ss := M.ss.set (8 * g + f) (key, .string sv), n := M.n + 1, t := if byteN wd f = 254 then M.t - 1 else M.t }) := by
            show M.lay key (.string sv) g f = _
            unfold SM.lay
            rw [hwd.out]
          have hstep : ∀ (M1 : SM) (w3 : World), Lies 85 82 w3 b bw bs M1 → M1.ws = M.ws → M1.ss = M.ss → M1.n = M.n → M1.k0 = M.k0 → M1.k1 = M.k1 → M1.t = (if byteN wd f = 254 then M.t - 1 else M.t) → Hid (M.place key (.string sv) = { M1 with ws := M1.ws.set g (putN wd f (M.what key)), ss := M1.ss.set (8 * g + f) (key, .string sv), n := M1.n + 1 }) := by
            intro M1 w3 _ e1 e2 e3 e4 e5 e6
            show _ = _
            rw [hpl.out, hlay.out]
            cases M1
            simp only at e1 e2 e3 e4 e5 e6
            subst e1 e2 e3 e4 e5 e6
            rfl
          by_cases hx : byteN wd f = 254
          · rw [hx]
            have h1t := hdel hx
            have f5' := hl2.free 5
            have L1 := hl2.setT (M.t - 1)
            rw [show ((M.t - 1 : Nat) : Int) = (M.t : Int) - 1 by omega] at L1
            have hpl' := hstep _ _ L1 rfl rfl rfl rfl rfl (by rw [if_pos hx])
            clear hstep hpl hlay
            go_wp2
            have hbut1 := hbut.setCell (p := ⟨b, 5, none⟩) (.inl (by simp)) (.int .i64 ((M.t : Int) - 1))
            clear f2 f3 f4 f5 f5' kw
            generalize wr.setCell ⟨b, 5, none⟩ (.int .i64 ((M.t : Int) - 1)) = w3 at *
            obtain ⟨M1, hM10⟩ : ∃ M1 : SM, M1 = { M with t := M.t - 1 } := ⟨_, rfl⟩
            have hM1w : M1.w g = wd := by rw [hM10]; exact hwd.out
            have hM1n : M1.n = M.n := by rw [hM10]
            have hp1' : 8 * g + f < M1.ss.length := by rw [hM10]; show 8 * g + f < M.ss.length; omega
            have hp2' : g < M1.ws.length := by rw [hM10]; exact hg
            rw [← hM10] at L1
            replace hpl' : Hid (M.place key (.string sv) = { M1 with ws := M1.ws.set g (putN wd f (M.what key)), ss := M1.ss.set (8 * g + f) (key, .string sv), n := M1.n + 1 }) := by rw [hM10]; exact hpl'
            clear hM10
            obtain ⟨w1', s1', _, _, m2, m3, m4, m5, hw1, hs1⟩ := L1.cells
            have hne := L1.ne
            have fw := L1.freeW g
            have kw1 := L1.word g hp2'
            rw [hM1w] at kw1
            have hj1 : 8 * (g : Int) + f < M1.ss.length := by omega
            have hj2 : M1.n ≤ 1099511627776 := by rw [hM1n]; omega
            have hni : Hid (((M1.n + 1 : Nat) : Int) = (M1.n : Int) + 1) := by show _ = _; omega
            clear hM1n hM1w
            refine wp_last (by kernel_rfl) (by kernel_rfl) ?_
            dsimp only [initL, lastL]
            repeat (go_big_quiet_step ((go_at_call 60; exact Calls.quiet_of_same (rset_any wd (f : Int) f (M.what key) (by omega) _ hwl (by omega)))))
            refine wpQuiet_nil ?_
            rintro _ ⟨nq, rfl⟩
            gi_wp2
            have L2 := (L1.drewN nq).setW g (putN wd f (M.what key))
            have hbut2 := (hbut1.drewN nq).setCell (p := ⟨bw, g, none⟩) (.inl (by simp)) (.int .u64 ((putN wd f (M.what key) : Nat) : Int))
            generalize (w3.drewN nq).setCell ⟨bw, g, none⟩ (.int .u64 ((putN wd f (M.what key) : Nat) : Int)) = w4 at *
            obtain ⟨w1'', s1'', _, _, n2, n3, n4, n5, _, _⟩ := L2.cells
            have ks1' := L2.key (8 * g + f) hp1'
            have ks2' := L2.val (8 * g + f) hp1'
            have fs1' := L2.freeS ((8 * g + f) * 2)
            have fs2' := L2.freeS ((8 * g + f) * 2 + 1)
            have fn1' := L2.free 4
            clear m2 m3 m4 m5 fw kw1 hw1 hs1 hbut1 L1
            go_wp2
            try simp only [Exit.inBlock, Exit.then]
            refine bodyPost_ret (results_none rfl _ _ _) rfl ?_
            refine ⟨⟨_, rfl⟩, ?_, ?_⟩
            · have hfin := (L2.setS (8 * g + f) key (.string sv)).setN (M1.n + 1)
              rw [hni.out] at hfin
              rw [hpl'.out]
              exact hfin
            · exact (((hbut2.setCell (p := ⟨bs, (8 * g + f) * 2, none⟩) (.inl (by simp)) _).setCell (p := ⟨bs, (8 * g + f) * 2 + 1, none⟩) (.inl (by simp)) _).setCell (p := ⟨b, 4, none⟩) (.inl (by simp)) _)
          · have hx' : (byteN wd f : Int) ≠ 254 := by omega
            have hx2 : ((byteN wd f : Int) == 254) = false := by simp; omega
            have L1 := hl2
            have hpl' := hstep _ _ L1 rfl rfl rfl rfl rfl (by rw [if_neg hx])
            have hbut1 := hbut
            clear hstep hpl hlay
            go_wp2
            clear f2 f3 f4 f5 kw
            generalize wr = w3 at *
            obtain ⟨M1, hM10⟩ : ∃ M1 : SM, M1 = M := ⟨_, rfl⟩
            have hM1w : M1.w g = wd := by rw [hM10]; exact hwd.out
            have hM1n : M1.n = M.n := by rw [hM10]
            have hp1' : 8 * g + f < M1.ss.length := by rw [hM10]; show 8 * g + f < M.ss.length; omega
            have hp2' : g < M1.ws.length := by rw [hM10]; exact hg
            rw [← hM10] at L1
            replace hpl' : Hid (M.place key (.string sv) = { M1 with ws := M1.ws.set g (putN wd f (M.what key)), ss := M1.ss.set (8 * g + f) (key, .string sv), n := M1.n + 1 }) := by rw [hM10]; exact hpl'
            clear hM10
            obtain ⟨w1', s1', _, _, m2, m3, m4, m5, hw1, hs1⟩ := L1.cells
            have hne := L1.ne
            have fw := L1.freeW g
            have kw1 := L1.word g hp2'
            rw [hM1w] at kw1
            have hj1 : 8 * (g : Int) + f < M1.ss.length := by omega
            have hj2 : M1.n ≤ 1099511627776 := by rw [hM1n]; omega
            have hni : Hid (((M1.n + 1 : Nat) : Int) = (M1.n : Int) + 1) := by show _ = _; omega
            clear hM1n hM1w
            refine wp_last (by kernel_rfl) (by kernel_rfl) ?_
            dsimp only [initL, lastL]
            repeat (go_big_quiet_step ((go_at_call 60; exact Calls.quiet_of_same (rset_any wd (f : Int) f (M.what key) (by omega) _ hwl (by omega)))))
            refine wpQuiet_nil ?_
            rintro _ ⟨nq, rfl⟩
            gi_wp2
            have L2 := (L1.drewN nq).setW g (putN wd f (M.what key))
            have hbut2 := (hbut1.drewN nq).setCell (p := ⟨bw, g, none⟩) (.inl (by simp)) (.int .u64 ((putN wd f (M.what key) : Nat) : Int))
            generalize (w3.drewN nq).setCell ⟨bw, g, none⟩ (.int .u64 ((putN wd f (M.what key) : Nat) : Int)) = w4 at *
            obtain ⟨w1'', s1'', _, _, n2, n3, n4, n5, _, _⟩ := L2.cells
            have ks1' := L2.key (8 * g + f) hp1'
            have ks2' := L2.val (8 * g + f) hp1'
            have fs1' := L2.freeS ((8 * g + f) * 2)
            have fs2' := L2.freeS ((8 * g + f) * 2 + 1)
            have fn1' := L2.free 4
            clear m2 m3 m4 m5 fw kw1 hw1 hs1 hbut1 L1
            go_wp2
            try simp only [Exit.inBlock, Exit.then]
            refine bodyPost_ret (results_none rfl _ _ _) rfl ?_
            refine ⟨⟨_, rfl⟩, ?_, ?_⟩
            · have hfin := (L2.setS (8 * g + f) key (.string sv)).setN (M1.n + 1)
              rw [hni.out] at hfin
              rw [hpl'.out]
              exact hfin
            · exact (((hbut2.setCell (p := ⟨bs, (8 * g + f) * 2, none⟩) (.inl (by simp)) _).setCell (p := ⟨bs, (8 * g + f) * 2 + 1, none⟩) (.inl (by simp)) _).setCell (p := ⟨b, 4, none⟩) (.inl (by simp)) _)
      · have hpl : Hid (M.place key (.string sv) = M) := by
          show _ = _
          rw [hpl0.out, hsj.out, List.drop_eq_nil_of_le (by omega), SM.spot]
        go_wp2
        go_end0
        refine ⟨⟨_, rfl⟩, ?_, But.of_below hB2 (Nat.le_refl _)⟩
        rw [hpl.out]
        exact hl2
end Go.Proofs.YtkjnifipepiahaaDoor

/-
  Regions whose every order ends in one way, but for some numbers.
-/
namespace Go.Proofs.YtkjnifipepiahaaDoor
open Go.RowKit Go.Shelf

/-- A region whose every order ends in one way, but for two numbers. -/
def EndIn (R : Nat → Nat → World → Prop) (A : Nat → Nat → Act) : Exit → Act → World → Prop
  | .normal, a, w => ∃ x y, a = A x y ∧ R x y w
  | _, _, _ => False
theorem EndIn.mk {R : Nat → Nat → World → Prop} {A : Nat → Nat → Act} {w : World} (x y : Nat) (h : R x y w) : EndIn R A .normal (A x y) w := ⟨x, y, rfl, h⟩
theorem some_end {P : Program} {id : Nat} {ops : Array Oper} {b : Bool} {Q : Exit → Act → World → Prop} {a : Act} {w : World} (R : Nat → Nat → World → Prop) {A : Nat → Nat → Act}
    (h : (Code.region id ops b).wp P (EndIn R A) a w) (k : ∀ x y W, R x y W → Q .normal (A x y) W) : (Code.region id ops b).wp P Q a w :=
  Code.wp_mono (fun e a w h => by cases e <;> first | (obtain ⟨x, y, rfl, hr⟩ := h; exact k x y w hr) | exact h.elim) h
/-- The same, but for one number. -/
def EndN (R : Nat → World → Prop) (A : Nat → Act) : Exit → Act → World → Prop
  | .normal, a, w => ∃ x, a = A x ∧ R x w
  | _, _, _ => False
theorem EndN.mk {R : Nat → World → Prop} {A : Nat → Act} {w : World} (x : Nat) (h : R x w) : EndN R A .normal (A x) w := ⟨x, rfl, h⟩
theorem num_end {P : Program} {id : Nat} {ops : Array Oper} {b : Bool} {Q : Exit → Act → World → Prop} {a : Act} {w : World} (R : Nat → World → Prop) {A : Nat → Act}
    (h : (Code.region id ops b).wp P (EndN R A) a w) (k : ∀ x W, R x W → Q .normal (A x) W) : (Code.region id ops b).wp P Q a w :=
  Code.wp_mono (fun e a w h => by cases e <;> first | (obtain ⟨x, rfl, hr⟩ := h; exact k x w hr) | exact h.elim) h
end Go.Proofs.YtkjnifipepiahaaDoor
