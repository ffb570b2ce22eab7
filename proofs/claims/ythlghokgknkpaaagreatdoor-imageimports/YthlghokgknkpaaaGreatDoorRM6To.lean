import Derived.Test.YthlghokgknkpaaaGreatDoorRM4To
import Derived.Test.YthlghokgknkpaaaGreatDoorSwEsTo
import Derived.Test.YthlghokgknkpaaaGreatDoorSwBTo
import Derived.Test.YthlghokgknkpaaaGreatDoorSwGsTo
/-
  Contracts: corbelref05's lay.
-/
namespace Go.Proofs.YthlghokgknkpaaaGreatDoor
open Go.RowKit Go.Shelf

set_option maxRecDepth 100000 in
set_option maxHeartbeats 4000000 in
theorem rlay_any (b bw bs : Nat) (M : SM) (key sv : ByteArray) (w : World) (h : Lies 63 76 w b bw bs M) (hF : M.Fit) (hk : key.size < 140737488355328)
    (ht : ∀ g i, g < M.ws.length → i < 8 → byteN (M.w g) i = 254 → 1 ≤ M.t) :
    Calls Tryz.prog 40 #[.pointer (some ⟨b, 0, none⟩), .string key, .string sv] w fun e w' => (∃ u, e = .returned u) ∧ Lies 63 76 w' b bw bs (M.place key (.string sv)) ∧ But [b, bw, bs] w w' := by
  obtain ⟨cw, cs, c0, c1, c2, c3, c4, c5, hcw, hcs⟩ := h.cells
  have hr := good_range hF.good
  have hfew := hF.few
  obtain ⟨X, H, hH0, hH1, hgs, hsum, hsplit⟩ := rhash_at M key hF hk
  have hwhat := M.what_lt key
  go_enter Tryz.func40, Tryz.ntmps40
  go_wp2_with fail
  apply world_end (fun Y => Below w.heap.size w Y)
  · go_region_with (first
      | (go_at_call 73; refine (hsum _).mono ?_; rintro e w1 ⟨rfl, hb1⟩)
      | (go_at_call 72; refine same_mono (hsplit _) ?_))
    all_goals exact EndW.mk (below_on hb1)
  · intro w1 hb1
    clear hsum hsplit
    have hl1 := h.below hb1 (Nat.le_refl _)
    obtain ⟨cw', cs', _, _, d2, d3, _, _, hcw', hcs'⟩ := hl1.cells
    go_wp2_with fail
    refine (rseq_any H M.ws.length w1 hH0 hH1 (by omega) (by omega)).mono ?_
    rintro e w2 ⟨v, rfl, hown, hb2⟩
    have hB2 : Below w.heap.size w w2 := hb1.trans (hb2.mono hb1.size)
    have hl2 := h.below hB2 (Nat.le_refl _)
    obtain ⟨cw2, cs2, _, _, f2, f3, f4, f5, hcw2, hcs2⟩ := hl2.cells
    rw [hgs] at hown
    have hrow := hown.has
    obtain ⟨p, c, hv, hpc, _, _⟩ := id hrow
    rw [List.length_map] at hv hpc
    subst hv
    clear c0 c1 c2 c3 c4 c5 d2 d3 hl1 hown hb2 hgs hH0 hH1 hcw' hcs' hcw hcs
    have hspot : Hid (M.spot (M.gs key) = M.spot ((M.gs key).drop 0)) := by show _ = _; rw [List.drop_zero]
    have hgl := SM.gs_lt hF key
    have hgn : (M.gs key).length ≤ 1024 := by unfold SM.gs; rw [List.length_map]; exact grp_len _ _
    have hpl0 : Hid (M.place key (.string sv) = match M.spot (M.gs key) with | none => M | some (g, i) => M.lay key (.string sv) g i) := rfl
    generalize hspk : M.spot (M.gs key) = sp at *
    clear hspk
    generalize M.gs key = gs at *
    go_wp2
    go_loopw [33] (fun t wr => ∃ j : Nat, j ≤ gs.length ∧ t = .int .i64 (j : Nat) ∧ Hid (sp = M.spot (gs.drop j)) ∧ wr = w2) (fun t _ => gs.length - (intOf t).toNat)
    case atStart => exact ⟨0, by omega, rfl, hspot, rfl⟩
    case round =>
      obtain ⟨j, hj, rfl, hsj, rfl⟩ := hrel
      clear hspot
      by_cases hlt : j < gs.length
      · obtain ⟨pb, po, rfl, _, cg⟩ := int_at hrow hlt
        have hdrop : Hid (gs.drop j = gs.getD j 0 :: gs.drop (j + 1)) := drop_getD hlt
        have hg := hgl (gs.getD j 0) (by rw [List.getD_eq_getElem?_getD, List.getElem?_eq_getElem hlt]; exact List.getElem_mem hlt)
        generalize gs.getD j 0 = g at *
        have kw := hl2.word g hg
        have hwl := hF.words g hg
        have hssl := hF.slots
        have ht' := ht g
        generalize hwd : M.w g = wd at *
        replace hwd : Hid (M.w g = wd) := hwd
        have hfl := freeN_lt wd
        by_cases hfr : freeN wd = 0
        · have hnone := free_none hfr
          have hs' : Hid (sp = M.spot (gs.drop (j + 1))) := by
            show _ = _
            rw [hsj.out, hdrop.out, SM.spot, hwd.out, hnone]
          clear hnone
          go_wp2_with fail
          refine same_mono (rfree_any wd _ hwl) ?_
          go_wp2_with fail
          refine same_mono (rfirst_any 0 _ (by decide)) ?_
          rw [show firstN 0 = 8 by decide]
          go_wp2
          go_roundw
          case rel => exact ⟨j + 1, by omega, by simp, hs', trivial⟩
          case measure => simp only [intOf]; omega
        · obtain ⟨hsome, hf8⟩ := free_some hfr
          have hpl : Hid (M.place key (.string sv) = M.lay key (.string sv) g (firstN (freeN wd))) := by
            show _ = _
            rw [hpl0.out, hsj.out, hdrop.out, SM.spot, hwd.out, hsome]
          have hbut : But [b, bw, bs] w wr := But.of_below hB2 (Nat.le_refl _)
          clear hsome
          go_wp2_with fail
          refine same_mono (rfree_any wd _ hwl) ?_
          go_wp2_with fail
          refine same_mono (rfirst_any _ _ hfl) ?_
          generalize firstN (freeN wd) = f at *
          have hf8' : ((f : Int) == 8) = false := by simp; omega
          have hdel := ht' f hg hf8
          clear ht' hfr hfl hdrop hsj hpl0
          go_wp2_with fail
          refine same_mono (rget_at wd f rfl hf8 _ hwl) ?_
          have hlay : Hid (M.lay key (.string sv) g f = { M with ws := M.ws.set g (putN wd f (M.what key)), ss := M.ss.set (8 * g + f) (key, .string sv), n := M.n + 1, t := if byteN wd f = 254 then M.t - 1 else M.t }) := by
            show M.lay key (.string sv) g f = _
            unfold SM.lay
            rw [hwd.out]
          have hstep : ∀ (M1 : SM) (w3 : World), Lies 63 76 w3 b bw bs M1 → M1.ws = M.ws → M1.ss = M.ss → M1.n = M.n → M1.k0 = M.k0 → M1.k1 = M.k1 → M1.t = (if byteN wd f = 254 then M.t - 1 else M.t) → Hid (M.place key (.string sv) = { M1 with ws := M1.ws.set g (putN wd f (M.what key)), ss := M1.ss.set (8 * g + f) (key, .string sv), n := M1.n + 1 }) := by
            intro M1 w3 _ e1 e2 e3 e4 e5 e6
            show _ = _
            rw [hpl.out, hlay.out]
            cases M1
            simp only at e1 e2 e3 e4 e5 e6
            subst e1 e2 e3 e4 e5 e6
            rfl
          by_cases hx : byteN wd f = 254
          · rw [hx]
            have h1t := hdel hx
            have f5' := hl2.free 5
            have L1 := hl2.setT (M.t - 1)
            rw [show ((M.t - 1 : Nat) : Int) = (M.t : Int) - 1 by omega] at L1
            have hpl' := hstep _ _ L1 rfl rfl rfl rfl rfl (by rw [if_pos hx])
            clear hstep hpl hlay
            go_wp2
            have hbut1 := hbut.setCell (p := ⟨b, 5, none⟩) (.inl (by simp)) (.int .i64 ((M.t : Int) - 1))
            clear f2 f3 f4 f5 f5' kw
            generalize wr.setCell ⟨b, 5, none⟩ (.int .i64 ((M.t : Int) - 1)) = w3 at *
            obtain ⟨M1, hM10⟩ : ∃ M1 : SM, M1 = { M with t := M.t - 1 } := ⟨_, rfl⟩
            have hM1w : M1.w g = wd := by rw [hM10]; exact hwd.out
            have hM1n : M1.n = M.n := by rw [hM10]
            have hp1' : 8 * g + f < M1.ss.length := by rw [hM10]; show 8 * g + f < M.ss.length; omega
            have hp2' : g < M1.ws.length := by rw [hM10]; exact hg
            rw [← hM10] at L1
            replace hpl' : Hid (M.place key (.string sv) = { M1 with ws := M1.ws.set g (putN wd f (M.what key)), ss := M1.ss.set (8 * g + f) (key, .string sv), n := M1.n + 1 }) := by rw [hM10]; exact hpl'
            clear hM10
            obtain ⟨w1', s1', _, _, m2, m3, m4, m5, hw1, hs1⟩ := L1.cells
            have hne := L1.ne
            have fw := L1.freeW g
            have kw1 := L1.word g hp2'
            rw [hM1w] at kw1
            have hj1 : 8 * (g : Int) + f < M1.ss.length := by omega
            have hj2 : M1.n ≤ 1099511627776 := by rw [hM1n]; omega
            have hni : Hid (((M1.n + 1 : Nat) : Int) = (M1.n : Int) + 1) := by show _ = _; omega
            clear hM1n hM1w
            refine wp_last (by kernel_rfl) (by kernel_rfl) ?_
            dsimp only [initL, lastL]
            repeat (go_big_quiet_step ((go_at_call 44; exact Calls.quiet_of_same (rset_any wd (f : Int) f (M.what key) (by omega) _ hwl (by omega)))))
            refine wpQuiet_nil ?_
            rintro _ ⟨nq, rfl⟩
            gi_wp2
            have L2 := (L1.drewN nq).setW g (putN wd f (M.what key))
            have hbut2 := (hbut1.drewN nq).setCell (p := ⟨bw, g, none⟩) (.inl (by simp)) (.int .u64 ((putN wd f (M.what key) : Nat) : Int))
            generalize (w3.drewN nq).setCell ⟨bw, g, none⟩ (.int .u64 ((putN wd f (M.what key) : Nat) : Int)) = w4 at *
            obtain ⟨w1'', s1'', _, _, n2, n3, n4, n5, _, _⟩ := L2.cells
            have ks1' := L2.key (8 * g + f) hp1'
            have ks2' := L2.val (8 * g + f) hp1'
            have fs1' := L2.freeS ((8 * g + f) * 2)
            have fs2' := L2.freeS ((8 * g + f) * 2 + 1)
            have fn1' := L2.free 4
            clear m2 m3 m4 m5 fw kw1 hw1 hs1 hbut1 L1
            go_wp2
            try simp only [Exit.inBlock, Exit.then]
            refine bodyPost_ret (results_none rfl _ _ _) rfl ?_
            refine ⟨⟨_, rfl⟩, ?_, ?_⟩
            · have hfin := (L2.setS (8 * g + f) key (.string sv)).setN (M1.n + 1)
              rw [hni.out] at hfin
              rw [hpl'.out]
              exact hfin
            · exact (((hbut2.setCell (p := ⟨bs, (8 * g + f) * 2, none⟩) (.inl (by simp)) _).setCell (p := ⟨bs, (8 * g + f) * 2 + 1, none⟩) (.inl (by simp)) _).setCell (p := ⟨b, 4, none⟩) (.inl (by simp)) _)
          · have hx' : (byteN wd f : Int) ≠ 254 := by omega
            have hx2 : ((byteN wd f : Int) == 254) = false := by simp; omega
            have L1 := hl2
            have hpl' := hstep _ _ L1 rfl rfl rfl rfl rfl (by rw [if_neg hx])
            have hbut1 := hbut
            clear hstep hpl hlay
            go_wp2
            clear f2 f3 f4 f5 kw
            generalize wr = w3 at *
            obtain ⟨M1, hM10⟩ : ∃ M1 : SM, M1 = M := ⟨_, rfl⟩
            have hM1w : M1.w g = wd := by rw [hM10]; exact hwd.out
            have hM1n : M1.n = M.n := by rw [hM10]
            have hp1' : 8 * g + f < M1.ss.length := by rw [hM10]; show 8 * g + f < M.ss.length; omega
            have hp2' : g < M1.ws.length := by rw [hM10]; exact hg
            rw [← hM10] at L1
            replace hpl' : Hid (M.place key (.string sv) = { M1 with ws := M1.ws.set g (putN wd f (M.what key)), ss := M1.ss.set (8 * g + f) (key, .string sv), n := M1.n + 1 }) := by rw [hM10]; exact hpl'
            clear hM10
            obtain ⟨w1', s1', _, _, m2, m3, m4, m5, hw1, hs1⟩ := L1.cells
            have hne := L1.ne
            have fw := L1.freeW g
            have kw1 := L1.word g hp2'
            rw [hM1w] at kw1
            have hj1 : 8 * (g : Int) + f < M1.ss.length := by omega
            have hj2 : M1.n ≤ 1099511627776 := by rw [hM1n]; omega
            have hni : Hid (((M1.n + 1 : Nat) : Int) = (M1.n : Int) + 1) := by show _ = _; omega
            clear hM1n hM1w
            refine wp_last (by kernel_rfl) (by kernel_rfl) ?_
            dsimp only [initL, lastL]
            repeat (go_big_quiet_step ((go_at_call 44; exact Calls.quiet_of_same (rset_any wd (f : Int) f (M.what key) (by omega) _ hwl (by omega)))))
            refine wpQuiet_nil ?_
            rintro _ ⟨nq, rfl⟩
            gi_wp2
            have L2 := (L1.drewN nq).setW g (putN wd f (M.what key))
            have hbut2 := (hbut1.drewN nq).setCell (p := ⟨bw, g, none⟩) (.inl (by simp)) (.int .u64 ((putN wd f (M.what key) : Nat) : Int))
            generalize (w3.drewN nq).setCell ⟨bw, g, none⟩ (.int .u64 ((putN wd f (M.what key) : Nat) : Int)) = w4 at *
            obtain ⟨w1'', s1'', _, _, n2, n3, n4, n5, _, _⟩ := L2.cells
            have ks1' := L2.key (8 * g + f) hp1'
            have ks2' := L2.val (8 * g + f) hp1'
            have fs1' := L2.freeS ((8 * g + f) * 2)
            have fs2' := L2.freeS ((8 * g + f) * 2 + 1)
            have fn1' := L2.free 4
            clear m2 m3 m4 m5 fw kw1 hw1 hs1 hbut1 L1
            go_wp2
            try simp only [Exit.inBlock, Exit.then]
            refine bodyPost_ret (results_none rfl _ _ _) rfl ?_
            refine ⟨⟨_, rfl⟩, ?_, ?_⟩
            · have hfin := (L2.setS (8 * g + f) key (.string sv)).setN (M1.n + 1)
              rw [hni.out] at hfin
              rw [hpl'.out]
              exact hfin
            · exact (((hbut2.setCell (p := ⟨bs, (8 * g + f) * 2, none⟩) (.inl (by simp)) _).setCell (p := ⟨bs, (8 * g + f) * 2 + 1, none⟩) (.inl (by simp)) _).setCell (p := ⟨b, 4, none⟩) (.inl (by simp)) _)
      · have hpl : Hid (M.place key (.string sv) = M) := by
          show _ = _
          rw [hpl0.out, hsj.out, List.drop_eq_nil_of_le (by omega), SM.spot]
        go_wp2
        go_end0
        refine ⟨⟨_, rfl⟩, ?_, But.of_below hB2 (Nat.le_refl _)⟩
        rw [hpl.out]
        exact hl2
end Go.Proofs.YthlghokgknkpaaaGreatDoor

/-
  Regions whose every order ends in one way, but for some numbers.
-/
namespace Go.Proofs.YthlghokgknkpaaaGreatDoor
open Go.RowKit Go.Shelf

/-- A region whose every order ends in one way, but for two numbers. -/
def EndIn (R : Nat → Nat → World → Prop) (A : Nat → Nat → Act) : Exit → Act → World → Prop
  | .normal, a, w => ∃ x y, a = A x y ∧ R x y w
  | _, _, _ => False
theorem EndIn.mk {R : Nat → Nat → World → Prop} {A : Nat → Nat → Act} {w : World} (x y : Nat) (h : R x y w) : EndIn R A .normal (A x y) w := ⟨x, y, rfl, h⟩
theorem some_end {P : Program} {id : Nat} {ops : Array Oper} {b : Bool} {Q : Exit → Act → World → Prop} {a : Act} {w : World} (R : Nat → Nat → World → Prop) {A : Nat → Nat → Act}
    (h : (Code.region id ops b).wp P (EndIn R A) a w) (k : ∀ x y W, R x y W → Q .normal (A x y) W) : (Code.region id ops b).wp P Q a w :=
  Code.wp_mono (fun e a w h => by cases e <;> first | (obtain ⟨x, y, rfl, hr⟩ := h; exact k x y w hr) | exact h.elim) h
/-- The same, but for one number. -/
def EndN (R : Nat → World → Prop) (A : Nat → Act) : Exit → Act → World → Prop
  | .normal, a, w => ∃ x, a = A x ∧ R x w
  | _, _, _ => False
theorem EndN.mk {R : Nat → World → Prop} {A : Nat → Act} {w : World} (x : Nat) (h : R x w) : EndN R A .normal (A x) w := ⟨x, rfl, h⟩
theorem num_end {P : Program} {id : Nat} {ops : Array Oper} {b : Bool} {Q : Exit → Act → World → Prop} {a : Act} {w : World} (R : Nat → World → Prop) {A : Nat → Act}
    (h : (Code.region id ops b).wp P (EndN R A) a w) (k : ∀ x W, R x W → Q .normal (A x) W) : (Code.region id ops b).wp P Q a w :=
  Code.wp_mono (fun e a w h => by cases e <;> first | (obtain ⟨x, rfl, hr⟩ := h; exact k x w hr) | exact h.elim) h
end Go.Proofs.YthlghokgknkpaaaGreatDoor

/-
  Contracts: corbelref05's rehash.
-/
namespace Go.Proofs.YthlghokgknkpaaaGreatDoor
open Go.RowKit Go.Shelf

/-- The places of the keys of the first slots. -/
def SM.fullT (M : SM) (j : Nat) : List Nat := (List.range j).filter fun p => decide (byteN (M.w (p / 8)) (p % 8) < 128)
theorem fullT_all (M : SM) : M.fullT (8 * M.ws.length) = M.full := rfl
theorem fullT_yes {M : SM} {g i : Nat} (hi : i < 8) (h : byteN (M.w g) i < 128) : M.fullT (8 * g + i + 1) = M.fullT (8 * g + i) ++ [8 * g + i] := by
  unfold SM.fullT
  rw [List.range_succ, List.filter_append, List.filter_cons_of_pos]
  · rfl
  · rw [show (8 * g + i) / 8 = g by omega, show (8 * g + i) % 8 = i by omega]
    exact decide_eq_true h
theorem fullT_no {M : SM} {g i : Nat} (hi : i < 8) (h : ¬ byteN (M.w g) i < 128) : M.fullT (8 * g + i + 1) = M.fullT (8 * g + i) := by
  unfold SM.fullT
  rw [List.range_succ, List.filter_append, List.filter_cons_of_neg]
  · simp
  · rw [show (8 * g + i) / 8 = g by omega, show (8 * g + i) % 8 = i by omega, decide_eq_false h]
    simp
theorem fullT_lt (M : SM) (j : Nat) : ∀ p ∈ M.fullT j, p < j := fun _ hp => List.mem_range.1 (List.mem_filter.1 hp).1
theorem fullT_len (M : SM) (j : Nat) : (M.fullT j).length ≤ j := by
  unfold SM.fullT
  exact Nat.le_trans (List.length_filter_le _ _) (by simp)
theorem slot_cell {w : World} {x y : Value} {t : TypeId} : (w.alloc (.cells #[x, y] t)).cell? ⟨w.heap.size, 0, none⟩ = some x ∧ (w.alloc (.cells #[x, y] t)).cell? ⟨w.heap.size, 1, none⟩ = some y := by
  have hh := heap_alloc_new w (.cells #[x, y] t)
  refine ⟨?_, ?_⟩
  all_goals
    unfold World.cell?
    dsimp only
    rw [hh]
    rfl

set_option maxRecDepth 100000 in
set_option maxHeartbeats 4000000 in
theorem rrehash_any (b bw bs : Nat) (M : SM) (w : World) (h0 : 0 < w.heap.size) (h : Lies 63 76 w b bw bs M) (hF : M.Fit) (hV : M.Typed IsV_s) (hg : isGood (M.size' : Int) = true) :
    Calls Tryz.prog 39 #[.pointer (some ⟨b, 0, none⟩)] w fun e w' => (∃ u, e = .returned u) ∧ ∃ bw' bs', Lies 63 76 w' b bw' bs' (M.rehash (.string ⟨#[]⟩)) ∧ w.heap.size ≤ bw' ∧ w.heap.size ≤ bs' ∧ But [b] w w' := by
  obtain ⟨cw, cs, c0, c1, c2, c3, c4, c5, hcw, hcs⟩ := h.cells
  have hr := good_range hF.good
  have hlt := h.lt
  have hfew := hF.few
  have hssl := hF.slots
  have hcase : (M.t = 0 ∧ Hid ((M.ws.length : Int) * 2 = (M.size' : Nat))) ∨ (M.t ≠ 0 ∧ 7 * (M.ws.length : Int) < 2 * (M.n : Int) ∧ Hid ((M.ws.length : Int) * 2 = (M.size' : Nat))) ∨ (M.t ≠ 0 ∧ ¬ 7 * (M.ws.length : Int) < 2 * (M.n : Int) ∧ Hid ((M.ws.length : Int) = (M.size' : Nat))) := by
    by_cases ht : M.t = 0
    · refine .inl ⟨ht, ?_⟩
      show _ = _
      unfold SM.size'
      rw [if_pos (.inl ht)]
      omega
    · by_cases hd : 7 * M.ws.length < 2 * M.n
      · refine .inr (.inl ⟨ht, by omega, ?_⟩)
        show _ = _
        unfold SM.size'
        rw [if_pos (.inr hd)]
        omega
      · refine .inr (.inr ⟨ht, by omega, ?_⟩)
        show _ = _
        unfold SM.size'
        rw [if_neg (by omega)]
  go_enter Tryz.func39, Tryz.ntmps39
  rcases hcase with ⟨ht, hs⟩ | ⟨ht, hd, hs⟩ | ⟨ht, hd, hs⟩
  all_goals
    go_wp2_with fail
    apply num_end (fun b' Y => ∃ bw' bs', Lies 63 76 Y b' bw' bs' (SM.empty M.k0 M.k1 (.string ⟨#[]⟩) M.size') ∧ w.heap.size ≤ b' ∧ w.heap.size ≤ bw' ∧ w.heap.size ≤ bs' ∧ Below w.heap.size w Y)
    · have hmd := fun W : World => fun hW => rmade_any M.k0 M.k1 M.size' hs.out hg W hW
      go_region_with (go_at_call 32; refine (hmd _ (by first | exact h0 | (simp; done))).mono ?_; rintro e w1 ⟨b', bw', bs', rfl, hl', g1, g2, g3, hb1⟩)
      all_goals exact EndN.mk b' ⟨bw', bs', hl', g1, g2, g3, below_on hb1⟩
    · rintro b' W ⟨bw', bs', hl', g1, g2, g3, hB1⟩
      clear c0 c1 c2 c3 c4 c5 hcw hcs ht hs
      have hl1 := h.below hB1 (Nat.le_refl _)
      obtain ⟨cw1, cs1, _, _, _, k3, _, _, _, hcs1⟩ := hl1.cells
      go_wp2
      go_loopw [43] (fun t wr => ∃ j : Nat, j ≤ M.ss.length ∧ t = .int .i64 (j : Nat) ∧ Lies 63 76 wr b' bw' bs' (M.re (.string ⟨#[]⟩) (M.fullT j)) ∧ Below w.heap.size w wr) (fun t _ => M.ss.length - (intOf t).toNat)
      case atStart => exact ⟨0, by omega, rfl, hl', hB1⟩
      case round =>
        obtain ⟨j, hj, rfl, hlj, hbr⟩ := hrel
        have hl := h.below hbr (Nat.le_refl _)
        have hzr := hbr.size
        by_cases hlt' : j < M.ss.length
        · obtain ⟨g, i, rfl, hi⟩ : ∃ g i, j = 8 * g + i ∧ i < 8 := ⟨j / 8, j % 8, by omega, Nat.mod_lt _ (by decide)⟩
          have hgl : g < M.ws.length := by omega
          have kk := hl.key _ hlt'
          have kv := hl.val _ hlt'
          obtain ⟨x, hx⟩ := hV _ hlt'
          have hsz := hF.texts _ hlt'
          have hwl := hF.words g hgl
          have hre := re_fit hF hg (.string ⟨#[]⟩) (M.fullT (8 * g + i)) (fun q hq => by have := fullT_lt M _ q hq; omega) (by have := fullT_len M (8 * g + i); omega)
          have hyes : byteN (M.w g) i < 128 → Hid (M.re (.string ⟨#[]⟩) (M.fullT (8 * g + i + 1)) = (M.re (.string ⟨#[]⟩) (M.fullT (8 * g + i))).place (M.s (8 * g + i)).1 (.string x)) := fun hb => by
            show _ = _
            rw [fullT_yes hi hb, re_snoc, hx]
          have hno : ¬ byteN (M.w g) i < 128 → Hid (M.re (.string ⟨#[]⟩) (M.fullT (8 * g + i + 1)) = M.re (.string ⟨#[]⟩) (M.fullT (8 * g + i))) := fun hb => by
            show _ = _
            rw [fullT_no hi hb]
          rw [hx] at kv
          clear hx
          have hBa : Below w.heap.size w (wr.alloc (.cells #[.string (M.s (8 * g + i)).1, .string x] 76)) := hbr.alloc hzr _
          have hBb : Below wr.heap.size wr (wr.alloc (.cells #[.string (M.s (8 * g + i)).1, .string x] 76)) := (Below.refl _ _).alloc (Nat.le_refl _) _
          have hla := h.below hBa (Nat.le_refl _)
          have hlja := hlj.below hBb (Nat.le_refl _)
          obtain ⟨s0, s1⟩ := slot_cell (w := wr) (x := .string (M.s (8 * g + i)).1) (y := .string x) (t := 76)
          obtain ⟨cw2, cs2, _, _, m2, _, _, _, hcw2, _⟩ := hla.cells
          have kw := hla.word g hgl
          have h8 : (8 * (g : Int) + i) / 8 = g := by omega
          have hi1 : 8 * (g : Int) + i < M.ss.length := by omega
          have hlay := rlay_any b' bw' bs' (M.re (.string ⟨#[]⟩) (M.fullT (8 * g + i))) (M.s (8 * g + i)).1 x (wr.alloc (.cells #[.string (M.s (8 * g + i)).1, .string x] 76)) hlja hre.1 hsz (fun g i hg hi he => absurd he (hre.2.1 g i hg hi))
          clear hre hl
          generalize (M.s (8 * g + i)).1 = key at *
          generalize M.w g = wd at *
          simp only [Int.natCast_add, Int.natCast_mul, Int.cast_ofNat_Int]
          by_cases hb : byteN wd i < 128
          · have hu := hyes hb
            have hb' : (byteN wd i : Int) < 128 := by omega
            clear hyes hno hb
            generalize M.re (.string ⟨#[]⟩) (M.fullT (8 * g + i)) = Mp at *
            go_wp2_with fail
            generalize wr.alloc (.cells #[.string key, .string x] 76) = wa at *
            refine same_mono (rget_any wd _ i (by omega) _ hwl) ?_
            go_wp2_with fail
            refine hlay.mono ?_
            rintro e w4 ⟨⟨u, rfl⟩, hl4, hbut4⟩
            clear hlay
            have hB4 : Below w.heap.size w w4 := hBa.trans (hbut4.below (B := w.heap.size) (by simp; omega) hBa.size)
            go_wp2
            go_roundw
            case rel =>
              refine ⟨8 * g + i + 1, by omega, by simp, ?_, hB4⟩
              rw [hu.out]
              exact hl4
            case measure => simp only [intOf]; omega
          · have hu := hno hb
            have hb' : ¬ (byteN wd i : Int) < 128 := by omega
            clear hyes hno hb hlay
            go_wp2_with fail
            generalize wr.alloc (.cells #[.string key, .string x] 76) = wa at *
            refine same_mono (rget_any wd _ i (by omega) _ hwl) ?_
            go_wp2
            go_roundw
            case rel =>
              refine ⟨8 * g + i + 1, by omega, by simp, ?_, hBa⟩
              rw [hu.out]
              exact hlja
            case measure => simp only [intOf]; omega
        · obtain rfl : j = M.ss.length := by omega
          rw [hssl, fullT_all] at hlj
          obtain ⟨dw, ds, j0, j1, j2, j3, j4, j5, _, _⟩ := hlj.cells
          obtain ⟨_, _, i0, i1, i2, i3, i4, i5, _, _⟩ := hl.cells
          have fr := hl.free
          obtain ⟨o0, o1, o2, o3, o4, o5, hobj⟩ := hl.obj
          have hcp := hlj.copy (b := b) hobj (by omega) h.pos.1 j2 j3
          have hbt : But [b] w _ := (But.of_below (S := [b]) hbr (Nat.le_refl _)).set6 (b := b) (.inl (by simp)) (.int .u64 (M.re (.string ⟨#[]⟩) M.full).k0) (.int .u64 (M.re (.string ⟨#[]⟩) M.full).k1) (.slice (some ⟨bw', 0, none⟩) (M.re (.string ⟨#[]⟩) M.full).ws.length dw) (.slice (some ⟨bs', 0, none⟩) (M.re (.string ⟨#[]⟩) M.full).ss.length ds) (.int .i64 ((M.re (.string ⟨#[]⟩) M.full).n : Int)) (.int .i64 ((M.re (.string ⟨#[]⟩) M.full).t : Int))
          have hre0 : Hid (M.rehash (.string ⟨#[]⟩) = M.re (.string ⟨#[]⟩) M.full) := re_full _ _
          generalize M.re (.string ⟨#[]⟩) M.full = Mr at *
          go_wp2
          go_end0
          exact ⟨⟨_, rfl⟩, bw', bs', by rw [hre0.out]; exact hcp, by omega, by omega, hbt⟩
end Go.Proofs.YthlghokgknkpaaaGreatDoor
