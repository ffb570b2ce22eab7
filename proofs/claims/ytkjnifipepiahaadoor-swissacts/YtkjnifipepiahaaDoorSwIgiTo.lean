import Derived.Test.YtkjnifipepiahaaDoorSwHiTo
import Derived.Test.YtkjnifipepiahaaDoorRM1To
/-
  Contracts: Map[int].Len, Tombs, Delete.
-/
namespace Go.Proofs.YtkjnifipepiahaaDoor
open Go.RowKit Go.Shelf

theorem len_any_i (b bw bs : Nat) (M : SM) (w : World) (h : Lies 60 93 w b bw bs M) (hF : M.Fit) :
    Calls Tryd.prog 34 #[.pointer (some ⟨b, 0, none⟩)] w fun e w' => e = .returned (.int .i64 (M.n : Nat)) ∧ w' = w := by
  have hr := good_range hF.good
  obtain ⟨cw, cs, c0, c1, c2, c3, c4, c5, hcw, hcs⟩ := h.cells
  have hmade := made_any_i b _ _ _ w c2
  rw [decide_eq_true (by omega : 0 < M.ws.length)] at hmade
  go_enter Tryd.func34, Tryd.ntmps34
  go_wp2_with (go_at_call 66; refine hmade.mono ?_; rintro e w ⟨rfl, rfl⟩)
  go_ret
  exact ⟨rfl, rfl⟩
theorem tombs_any_i (b bw bs : Nat) (M : SM) (w : World) (h : Lies 60 93 w b bw bs M) (hF : M.Fit) :
    Calls Tryd.prog 35 #[.pointer (some ⟨b, 0, none⟩)] w fun e w' => e = .returned (.int .i64 (M.t : Nat)) ∧ w' = w := by
  have hr := good_range hF.good
  obtain ⟨cw, cs, c0, c1, c2, c3, c4, c5, hcw, hcs⟩ := h.cells
  have hmade := made_any_i b _ _ _ w c2
  rw [decide_eq_true (by omega : 0 < M.ws.length)] at hmade
  go_enter Tryd.func35, Tryd.ntmps35
  go_wp2_with (go_at_call 66; refine hmade.mono ?_; rintro e w ⟨rfl, rfl⟩)
  go_ret
  exact ⟨rfl, rfl⟩

set_option maxRecDepth 100000 in
set_option maxHeartbeats 4000000 in
theorem delete_any_i (b bw bs : Nat) (M : SM) (key : ByteArray) (w : World) (hT : Tab w) (h : Lies 60 93 w b bw bs M) (hS : M.Sane IsV_i) (hk : key.size < 140737488355328) :
    Calls Tryd.prog 33 #[.pointer (some ⟨b, 0, none⟩), .string key] w fun e w' => e = .returned (.bool (M.del key (.int .i64 0)).1) ∧ Lies 60 93 w' b bw bs (M.del key (.int .i64 0)).2 ∧ But [b, bw, bs] w w' := by
  have hF := hS.fit
  have hr := good_range hF.good
  have hfew := hF.few
  have hfind := find_any_i b bw bs M key w hT h hF hk
  cases hfd : M.find key with
  | none =>
    have hdel : M.del key (.int .i64 0) = (false, M) := by unfold SM.del; rw [hfd]
    rw [hdel]
    rw [hfd] at hfind
    clear hfd hdel
    go_enter Tryd.func33, Tryd.ntmps33
    go_wp2_with fail
    refine hfind.mono ?_
    rintro e w1 ⟨rfl, hb⟩
    clear hfind
    go_wp2
    go_ret
    exact ⟨rfl, h.below hb (Nat.le_refl _), But.of_below hb (Nat.le_refl _)⟩
  | some p =>
    obtain ⟨hp1, hp2, hp3, hkey⟩ := find_some hF hfd
    clear hkey
    have hwl := M.what_lt key
    have hn1 : 1 ≤ M.n := hS.some (p / 8) (p % 8) hp2 (Nat.mod_lt _ (by decide)) (by omega)
    obtain ⟨g, i, rfl, hi⟩ : ∃ g i, p = 8 * g + i ∧ i < 8 := ⟨p / 8, p % 8, by omega, Nat.mod_lt _ (by decide)⟩
    have hdel : M.del key (.int .i64 0) = (true, { M with ws := M.ws.set g (putN (M.w g) i (if hasE (M.w g) then 128 else 254)), ss := M.ss.set (8 * g + i) (ByteArray.empty, (.int .i64 0)), n := M.n - 1, t := if hasE (M.w g) then M.t else M.t + 1 }) := by
      unfold SM.del; rw [hfd]; simp only
      rw [show (8 * g + i) / 8 = g by omega, show (8 * g + i) % 8 = i by omega]
    rw [hdel]
    rw [show (8 * g + i) / 8 = g by omega] at hp2
    rw [hfd] at hfind
    simp only [Int.natCast_add, Int.natCast_mul, Int.cast_ofNat_Int] at hfind
    have hE := hasE_match (M.w g)
    have hwd := hF.words g hp2
    clear hfd hdel hp3
    generalize hwd0 : M.w g = wd at *
    have h8 : (8 * (g : Int) + i) / 8 = g := by omega
    have h9 : (8 * (g : Int) + i) % 8 = i := by omega
    have hs8 := hF.slots
    have hi1 : 8 * (g : Int) + i < M.ss.length := by omega
    have hi0 : 8 * (g : Int) + i ≠ -1 := by omega
    have hi2 : ¬ (8 * (g : Int) + i) < 0 := by omega
    have hm2 := matchN_lt wd 128
    have hwd1 : Hid (M.w g = wd) := hwd0
    by_cases hem : matchN wd 128 = 0
    · have hE' : hasE wd = false := by rw [hE, decide_eq_true hem]; rfl
      clear hE
      simp only [hE', Bool.false_eq_true, if_false]
      clear hE'
      have hd254 : (254 : Nat) < 256 := by decide
      go_enter Tryd.func33, Tryd.ntmps33
      go_wp2_with fail
      refine hfind.mono ?_
      rintro e w1 ⟨rfl, hb⟩
      have hl := h.below hb (Nat.le_refl _)
      obtain ⟨dw, ds, _, _, k2, k3, k4, k5, hdw, hds⟩ := hl.cells
      have kw := hl.word g hp2
      rw [hwd0] at kw
      have f5 := hl.free 5
      have hbut : But [b, bw, bs] w w1 := But.of_below hb (Nat.le_refl _)
      clear hfind hs8 hwd0
      go_wp2_with (go_at_call 58; refine same_mono (empties_any wd _ hwd) ?_; rw [hem])
      have L1 := hl.setT (M.t + 1)
      rw [show ((M.t + 1 : Nat) : Int) = (M.t : Int) + 1 by omega] at L1
      replace hbut := hbut.setCell (p := ⟨b, 5, none⟩) (.inl (by simp)) (.int .i64 ((M.t : Int) + 1))
      clear k2 k3 k4 k5 f5 hl kw
      generalize w1.setCell ⟨b, 5, none⟩ (.int .i64 ((M.t : Int) + 1)) = w2 at *
      obtain ⟨M1, hM10⟩ : ∃ M1 : SM, M1 = { M with t := M.t + 1 } := ⟨_, rfl⟩
      have hM1 : M1.w g = wd := by rw [hM10]; exact hwd1.out
      have hM1n : M1.n = M.n := by rw [hM10]
      rw [← hM10] at L1
      have hp1' : 8 * g + i < M1.ss.length := by rw [hM10]; exact hp1
      have hp2' : g < M1.ws.length := by rw [hM10]; exact hp2
      obtain ⟨w1', s1', _, _, m2, m3, m4, m5, hw1, hs1⟩ := L1.cells
      have hne := L1.ne
      have fw := L1.freeW g
      have kw1 := L1.word g hp2'
      have hM1w : M1.w g = wd := hM1
      rw [hM1w] at kw1
      have ks1 := L1.key (8 * g + i) hp1'
      have ks2 := L1.val (8 * g + i) hp1'
      have fs1 := L1.freeS ((8 * g + i) * 2)
      have fs2 := L1.freeS ((8 * g + i) * 2 + 1)
      have fn1 := L1.free 4
      have hj1 : 8 * (g : Int) + i < M1.ss.length := by omega
      have hj2 : M1.n ≤ 1099511627776 := by rw [hM1n]; omega
      have hni : Hid (((M1.n - 1 : Nat) : Int) = (M1.n : Int) - 1) := by
        show _ = _
        rw [hM1n]; omega
      have HM10 : Hid (M1 = _) := hM10
      clear hM10 hM1 hM1n hM1w h8 h9 hi0 hi2
      refine wp_last (by kernel_rfl) (by kernel_rfl) ?_
      dsimp only [initL, lastL]
      repeat (go_big_quiet_step ((go_at_call 59; exact Calls.quiet_of (set_any wd (i : Int) i 254 (by omega) _ hwd (by omega)))))
      refine wpQuiet_nil ?_
      rintro _ ⟨nq, rfl⟩
      gi_wp2
      have L2 := (L1.drewN nq).setW g (putN wd i 254)
      have hbut2 := (hbut.drewN nq).setCell (p := ⟨bw, g, none⟩) (.inl (by simp)) (.int .u64 ((putN wd i 254 : Nat) : Int))
      generalize (w2.drewN nq).setCell ⟨bw, g, none⟩ (.int .u64 ((putN wd i 254 : Nat) : Int)) = w3 at *
      obtain ⟨w1'', s1'', _, _, n2, n3, n4, n5, _, _⟩ := L2.cells
      have ks1' := L2.key (8 * g + i) hp1'
      have ks2' := L2.val (8 * g + i) hp1'
      have fs1' := L2.freeS ((8 * g + i) * 2)
      have fs2' := L2.freeS ((8 * g + i) * 2 + 1)
      have fn1' := L2.free 4
      clear m2 m3 m4 m5 ks1 ks2 fs1 fs2 fn1 fw kw1 hw1 hs1 hbut
      go_wp2
      go_ret
      refine ⟨rfl, ?_, ?_⟩
      · have hfin := (L2.setS (8 * g + i) ByteArray.empty (.int .i64 0)).setN (M1.n - 1)
        rw [hni.out] at hfin
        have hM10 := HM10.out
        subst hM10
        exact hfin
      · exact (((hbut2.setCell (p := ⟨bs, (8 * g + i) * 2, none⟩) (.inl (by simp)) _).setCell (p := ⟨bs, (8 * g + i) * 2 + 1, none⟩) (.inl (by simp)) _).setCell (p := ⟨b, 4, none⟩) (.inl (by simp)) _)
    · have hE' : hasE wd = true := by rw [hE, decide_eq_false hem]; rfl
      clear hE
      simp only [hE', if_true]
      clear hE'
      have hem' : (matchN wd 128 : Int) ≠ 0 := by omega
      go_enter Tryd.func33, Tryd.ntmps33
      go_wp2_with fail
      refine hfind.mono ?_
      rintro e w1 ⟨rfl, hb⟩
      have hl := h.below hb (Nat.le_refl _)
      obtain ⟨dw, ds, _, _, k2, k3, k4, k5, hdw, hds⟩ := hl.cells
      have kw := hl.word g hp2
      rw [hwd0] at kw
      have f5 := hl.free 5
      have hbut : But [b, bw, bs] w w1 := But.of_below hb (Nat.le_refl _)
      clear hfind hs8 hwd0
      go_wp2_with (go_at_call 58; refine same_mono (empties_any wd _ hwd) ?_)
      have L1 := hl
      clear k2 k3 k4 k5 f5 hl kw
      obtain ⟨M1, hM10⟩ : ∃ M1 : SM, M1 = M := ⟨_, rfl⟩
      have hM1 : M1.w g = wd := by rw [hM10]; exact hwd1.out
      have hM1n : M1.n = M.n := by rw [hM10]
      rw [← hM10] at L1
      have hp1' : 8 * g + i < M1.ss.length := by rw [hM10]; exact hp1
      have hp2' : g < M1.ws.length := by rw [hM10]; exact hp2
      obtain ⟨w1', s1', _, _, m2, m3, m4, m5, hw1, hs1⟩ := L1.cells
      have hne := L1.ne
      have fw := L1.freeW g
      have kw1 := L1.word g hp2'
      have hM1w : M1.w g = wd := hM1
      rw [hM1w] at kw1
      have ks1 := L1.key (8 * g + i) hp1'
      have ks2 := L1.val (8 * g + i) hp1'
      have fs1 := L1.freeS ((8 * g + i) * 2)
      have fs2 := L1.freeS ((8 * g + i) * 2 + 1)
      have fn1 := L1.free 4
      have hj1 : 8 * (g : Int) + i < M1.ss.length := by omega
      have hj2 : M1.n ≤ 1099511627776 := by rw [hM1n]; omega
      have hni : Hid (((M1.n - 1 : Nat) : Int) = (M1.n : Int) - 1) := by
        show _ = _
        rw [hM1n]; omega
      have HM10 : Hid (M1 = _) := hM10
      clear hM10 hM1 hM1n hM1w h8 h9 hi0 hi2
      refine wp_last (by kernel_rfl) (by kernel_rfl) ?_
      dsimp only [initL, lastL]
      repeat (go_big_quiet_step ((go_at_call 59; exact Calls.quiet_of (set_any wd (i : Int) i 128 (by omega) _ hwd (by omega)))))
      refine wpQuiet_nil ?_
      rintro _ ⟨nq, rfl⟩
      gi_wp2
      have L2 := (L1.drewN nq).setW g (putN wd i 128)
      have hbut2 := (hbut.drewN nq).setCell (p := ⟨bw, g, none⟩) (.inl (by simp)) (.int .u64 ((putN wd i 128 : Nat) : Int))
      generalize (w1.drewN nq).setCell ⟨bw, g, none⟩ (.int .u64 ((putN wd i 128 : Nat) : Int)) = w3 at *
      obtain ⟨w1'', s1'', _, _, n2, n3, n4, n5, _, _⟩ := L2.cells
      have ks1' := L2.key (8 * g + i) hp1'
      have ks2' := L2.val (8 * g + i) hp1'
      have fs1' := L2.freeS ((8 * g + i) * 2)
      have fs2' := L2.freeS ((8 * g + i) * 2 + 1)
      have fn1' := L2.free 4
      clear m2 m3 m4 m5 ks1 ks2 fs1 fs2 fn1 fw kw1 hw1 hs1 hbut
      go_wp2
      go_ret
      refine ⟨rfl, ?_, ?_⟩
      · have hfin := (L2.setS (8 * g + i) ByteArray.empty (.int .i64 0)).setN (M1.n - 1)
        rw [hni.out] at hfin
        have hM10 := HM10.out
        subst hM10
        exact hfin
      · exact (((hbut2.setCell (p := ⟨bs, (8 * g + i) * 2, none⟩) (.inl (by simp)) _).setCell (p := ⟨bs, (8 * g + i) * 2 + 1, none⟩) (.inl (by simp)) _).setCell (p := ⟨b, 4, none⟩) (.inl (by simp)) _)
end Go.Proofs.YtkjnifipepiahaaDoor

/-
  Contracts: slices.Clone of words; Map[int].Controls.
-/
namespace Go.Proofs.YtkjnifipepiahaaDoor
open Go.RowKit Go.Shelf

theorem sliceW_nil_i (a : Addr) (n c : Nat) (W : World) : (binOp .eql 48 (.slice (some a) n c) (.slice none 0 0)).run Tryd.prog W = .ok (.bool false) W := by
  simp [binOp, go_sem]
  show ((Op.equalIn (9999 + 1) 48 (.slice (some a) n c) (.slice none 0 0)).run Tryd.prog W).andThen _ = _
  rw [equal_slice_nil 9999 _ _ a n c W Tryd.underlying48]
  rfl
set_option maxRecDepth 10000 in
set_option maxHeartbeats 1000000 in
theorem cloneW_i (bw n cw : Nat) (ws : List Nat) (w : World) (hown : w.ownsRow 0 22 1 (.slice (some ⟨bw, 0, none⟩) n cw) n (cellsW ws)) (hn : 0 < n) (hn2 : n ≤ 100000) :
    Calls Tryd.prog 61 #[.slice (some ⟨bw, 0, none⟩) n cw] w fun e w' => ∃ g cap, e = .returned (.slice (some ⟨g, 0, none⟩) n cap) ∧ w.heap.size ≤ g ∧ w'.ownsRow 0 22 1 (.slice (some ⟨g, 0, none⟩) n cap) n (cellsW ws) ∧ Below w.heap.size w w' := by
  obtain ⟨i1, hi1, hz1, hs1, hb1⟩ := info_parts infoW_i
  have hlen := hown.1
  have he := World.ownsRow_made (e := 22) (size := 1) (base := w.heap.size) w #[] 0 (Nat.le_refl _) (Nat.zero_le _) rfl
  have hcells := row_cells (World.ownsRow.alloc hown (.cells #[] 22))
  have h1 := cellsW_one ws
  have hnil := sliceW_nil_i
  have hb : Below w.heap.size w (w.alloc (.cells #[] 22)) := (Below.refl _ _).alloc (Nat.le_refl _) _
  go_enter Tryd.func61, Tryd.ntmps61
  go_wp2_with (at_builtin; refine wpList_append_own _ rfl (.tmp 5) (.tmp 6) 48 rfl w.heap.size 22 i1 (.int .u64 0) 1 8 Tryd.underlying48 hi1 hz1 hs1 hb1 rfl (by decide) _ 0 [] rfl he ⟨bw, 0, none⟩ n cw (cellsW ws) rfl hlen hcells h1 (by unfold maxLen; omega) (by omega) (by simp) ?_; intro v' w' hown' hgrow _)
  rw [Nat.zero_add, List.nil_append] at hown'
  obtain ⟨g, cap, rfl, hg⟩ := row_some hown' hn
  go_ret
  refine ⟨g, cap, rfl, hg, row_mono hown' (Nat.zero_le _), hb.trans ((Below.refl _ _).grown hgrow (by simp) fun k hk => ?_)⟩
  exact (World.ownsRow.lt he k hk).1

set_option maxHeartbeats 1000000 in
theorem controls_any_i (b bw bs : Nat) (M : SM) (w : World) (h : Lies 60 93 w b bw bs M) (hF : M.Fit) :
    Calls Tryd.prog 36 #[.pointer (some ⟨b, 0, none⟩)] w fun e w' => ∃ g cap, e = .returned (.slice (some ⟨g, 0, none⟩) M.ws.length cap) ∧ w.heap.size ≤ g ∧ w'.ownsRow 0 22 1 (.slice (some ⟨g, 0, none⟩) M.ws.length cap) M.ws.length (cellsW M.ws) ∧ Below w.heap.size w w' := by
  have hr := good_range hF.good
  obtain ⟨cw, cs, r1, r2, r3⟩ := h.row
  have c2 : w.cell? ⟨b, 2, none⟩ = some (.slice (some ⟨bw, 0, none⟩) M.ws.length cw) := by simp [World.cell?, r1]
  have hmade := made_any_i b _ _ _ w c2
  rw [decide_eq_true (by omega : 0 < M.ws.length)] at hmade
  have hcl := cloneW_i bw M.ws.length cw M.ws w r2 (by omega) (by omega)
  clear r1 r2 r3
  go_enter Tryd.func36, Tryd.ntmps36
  go_wp2_with (go_at_call 66; refine hmade.mono ?_; rintro e w ⟨rfl, rfl⟩)
  refine hcl.mono ?_
  rintro e w1 ⟨g, cap, rfl, hg, ho, hb⟩
  go_wp2
  go_ret
  exact ⟨g, cap, rfl, hg, ho, hb⟩
end Go.Proofs.YtkjnifipepiahaaDoor

/-
  Contract: Map[int].Get.
-/
namespace Go.Proofs.YtkjnifipepiahaaDoor
open Go.RowKit Go.Shelf

set_option maxHeartbeats 1000000 in
theorem get_map_i (b bw bs : Nat) (M : SM) (key : ByteArray) (w : World) (hT : Tab w) (h : Lies 60 93 w b bw bs M) (hF : M.Fit) (hV : M.Typed IsV_i) (hk : key.size < 140737488355328) :
    Calls Tryd.prog 32 #[.pointer (some ⟨b, 0, none⟩), .string key] w fun e w' => e = .returned (.tuple #[(M.get key (.int .i64 0)).1, .bool (M.get key (.int .i64 0)).2]) ∧ Below w.heap.size w w' := by
  have hfind := find_any_i b bw bs M key w hT h hF hk
  unfold SM.get
  cases hfd : M.find key with
  | some p =>
    obtain ⟨hp1, _, _, _⟩ := find_some hF hfd
    obtain ⟨x, hx⟩ := hV p hp1
    rw [hfd] at hfind
    simp only
    rw [hx]
    clear hfd
    go_enter Tryd.func32, Tryd.ntmps32
    go_wp2_with fail
    refine hfind.mono ?_
    rintro e w1 ⟨rfl, hb⟩
    have hl := h.below hb (Nat.le_refl _)
    obtain ⟨dw, ds, _, _, _, k3, _, _, _, hds⟩ := hl.cells
    have kv := hl.val p hp1
    rw [hx] at kv
    have hp2 : (p : Int) < M.ss.length := by omega
    have hp3 : (p : Int) ≠ -1 := by omega
    clear hx hfind
    go_wp2
    go_ret2
    exact ⟨rfl, hb⟩
  | none =>
    rw [hfd] at hfind
    simp only
    clear hfd
    go_enter Tryd.func32, Tryd.ntmps32
    go_wp2_with fail
    refine hfind.mono ?_
    rintro e w1 ⟨rfl, hb⟩
    clear hfind
    go_wp2
    go_ret2
    exact ⟨rfl, hb⟩
end Go.Proofs.YtkjnifipepiahaaDoor
