import Derived.Test.YthlghokgknkpaaaGreatDoorSwGsTo
import Derived.Test.YthlghokgknkpaaaGreatDoorTriTo
/-
  Contracts: Map[string].Put, Get, Len, Tombs.
-/
namespace Go.Proofs.YthlghokgknkpaaaGreatDoor
open Go.RowKit Go.Shelf

def IsV_s (v : Value) : Prop := ∃ x, v = .string x

set_option maxRecDepth 100000 in
set_option maxHeartbeats 4000000 in
theorem put_any_s (b bw bs : Nat) (M : SM) (key : ByteArray) (sv : ByteArray) (w : World) (hT : Tab w) (h : Lies 74 71 w b bw bs M) (hS : M.Sane IsV_s) (hk : key.size < 140737488355328) :
    Calls Tryz.prog 10 #[.pointer (some ⟨b, 0, none⟩), .string key, .string sv] w fun e w' => e = .returned (.tuple #[.bool (M.put key (.string sv) (.string ⟨#[]⟩)).1, .int .i64 ((M.put key (.string sv) (.string ⟨#[]⟩)).2.1 : Nat)]) ∧
      ∃ bw' bs', Lies 74 71 w' b bw' bs' (M.put key (.string sv) (.string ⟨#[]⟩)).2.2 ∧ But [b, bw, bs] w w' ∧ (bw' = bw ∨ w.heap.size ≤ bw') ∧ (bs' = bs ∨ w.heap.size ≤ bs') := by
  have hF := hS.fit
  have hr := good_range hF.good
  have hfew := hF.few
  have hlt := h.lt
  obtain ⟨cw, cs, c0, c1, c2, c3, c4, c5, hcw, hcs⟩ := h.cells
  have hpos : decide (0 < M.ws.length) = true := decide_eq_true (by omega)
  have hmade := made_any_s b _ _ _ w c2
  rw [hpos] at hmade
  have hfind := find_any_s b bw bs M key w hT h hF hk
  cases hfd : M.find key with
  | some p =>
    obtain ⟨hp1, _, _, _⟩ := find_some hF hfd
    have hput : M.put key (.string sv) (.string ⟨#[]⟩) = (true, 0, { M with ss := M.ss.set p ((M.s p).1, .string sv) }) := by unfold SM.put; rw [hfd]
    rw [hput]
    rw [hfd] at hfind
    clear hput hfd hpos
    go_enter Tryz.func10, Tryz.ntmps10
    go_wp2_with (go_at_call 34; refine hmade.mono ?_; rintro e w ⟨rfl, rfl⟩)
    refine hfind.mono ?_
    rintro e w1 ⟨rfl, hb⟩
    have hl := h.below hb (Nat.le_refl _)
    obtain ⟨dw, ds, _, _, _, k3, _, _, _, hds⟩ := hl.cells
    have kv := hl.val p hp1
    have fv := hl.freeS (p * 2 + 1)
    have hp2 : (p : Int) < M.ss.length := by omega
    have hp3 : (p : Int) ≠ -1 := by omega
    have hset := hl.setV p (.string sv) hp1
    clear c0 c1 c2 c3 c4 c5 hmade
    go_wp2
    go_ret2
    exact ⟨rfl, bw, bs, hset, (But.of_below hb (Nat.le_refl _)).setCell (p := ⟨bs, p * 2 + 1, none⟩) (.inl (by simp)) _, .inl rfl, .inl rfl⟩
  | none =>
    rw [hfd] at hfind
    by_cases hfull : 2000 ≤ M.n
    · have hput : M.put key (.string sv) (.string ⟨#[]⟩) = (false, 7, M) := by unfold SM.put; rw [hfd]; simp only; rw [if_pos hfull]
      rw [hput]
      clear hput hfd hpos
      go_enter Tryz.func10, Tryz.ntmps10
      go_wp2_with (go_at_call 34; refine hmade.mono ?_; rintro e w ⟨rfl, rfl⟩)
      refine hfind.mono ?_
      rintro e w1 ⟨rfl, hb⟩
      have hl := h.below hb (Nat.le_refl _)
      obtain ⟨dw, ds, _, _, _, _, k4, _, _, _⟩ := hl.cells
      clear c0 c1 c2 c3 c4 c5 hmade
      go_wp2
      go_ret2
      exact ⟨rfl, bw, bs, hl, But.of_below hb (Nat.le_refl _), .inl rfl, .inl rfl⟩
    · by_cases hroom : 7 * M.ws.length ≤ M.n + M.t
      · have hput : M.put key (.string sv) (.string ⟨#[]⟩) = (false, 0, (M.rehash (.string ⟨#[]⟩)).place key (.string sv)) := by unfold SM.put; rw [hfd]; simp only; rw [if_neg hfull, if_pos hroom]
        rw [hput]
        have hg := hS.room hroom (by omega)
        obtain ⟨f1, f2, f3⟩ := rehash_fit hF hg (.string ⟨#[]⟩)
        clear hput hfd hpos
        go_enter Tryz.func10, Tryz.ntmps10
        go_wp2_with (go_at_call 34; refine hmade.mono ?_; rintro e w ⟨rfl, rfl⟩)
        refine hfind.mono ?_
        rintro e w1 ⟨rfl, hb⟩
        have hl := h.below hb (Nat.le_refl _)
        have hT1 := hT.below hb hT.1
        obtain ⟨dw, ds, _, _, k2, _, k4, k5, _, _⟩ := hl.cells
        have hz := hb.size
        clear c0 c1 c2 c3 c4 c5 hmade
        have hi1 : 7 * (M.ws.length : Int) ≤ M.n + M.t := by omega
        have hi2 : ¬ 2000 ≤ (M.n : Int) := by omega
        go_wp2
        go_quiet (fail)
        go_wp2_with fail
        refine (rehash_any_s b bw bs M (w1.drewN nq) hT1 (hl.drewN nq) hF hS.typed hg).mono ?_
        rintro e w2 ⟨⟨u, rfl⟩, bw', bs', hl2, g1, g2, hb2⟩
        have hpp := h.pos
        have hT2 : Tab w2 := hb2.tab (X := w1.drewN nq) hT1 (by simp; omega)
        go_wp2_with fail
        refine (place_any_s b bw' bs' (M.rehash (.string ⟨#[]⟩)) key sv w2 hT2 hl2 f1 hk (fun g i hg hi he => absurd he (f2 g i hg hi))).mono ?_
        rintro e w3 ⟨⟨u, rfl⟩, hl3, hb3⟩
        go_wp2
        go_ret2
        have g1' : w.heap.size ≤ bw' := Nat.le_trans hz g1
        have g2' : w.heap.size ≤ bs' := Nat.le_trans hz g2
        have hbb : But [b, bw, bs] w w2 := ((But.of_below hb (Nat.le_refl _)).drewN nq).wide hb2 (by simp)
        exact ⟨rfl, bw', bs', hl3, hbb.wide hb3 (by simp; omega), .inr g1', .inr g2'⟩
      · have hput : M.put key (.string sv) (.string ⟨#[]⟩) = (false, 0, M.place key (.string sv)) := by unfold SM.put; rw [hfd]; simp only; rw [if_neg hfull, if_neg hroom]
        rw [hput]
        clear hput hfd hpos
        go_enter Tryz.func10, Tryz.ntmps10
        go_wp2_with (go_at_call 34; refine hmade.mono ?_; rintro e w ⟨rfl, rfl⟩)
        refine hfind.mono ?_
        rintro e w1 ⟨rfl, hb⟩
        have hl := h.below hb (Nat.le_refl _)
        have hT1 := hT.below hb hT.1
        obtain ⟨dw, ds, _, _, k2, _, k4, k5, _, _⟩ := hl.cells
        clear c0 c1 c2 c3 c4 c5 hmade
        have hi1 : ¬ 7 * (M.ws.length : Int) ≤ M.n + M.t := by omega
        have hi2 : ¬ 2000 ≤ (M.n : Int) := by omega
        go_wp2
        go_quiet (fail)
        go_wp2_with fail
        refine (place_any_s b bw bs M key sv (w1.drewN nq) hT1 (hl.drewN nq) hF hk hS.tombs).mono ?_
        rintro e w3 ⟨⟨u, rfl⟩, hl3, hb3⟩
        go_wp2
        go_ret2
        exact ⟨rfl, bw, bs, hl3, ((But.of_below hb (Nat.le_refl _)).drewN nq).trans hb3, .inl rfl, .inl rfl⟩
end Go.Proofs.YthlghokgknkpaaaGreatDoor

/-
  Contracts: Map[string].Len, Tombs, Delete.
-/
namespace Go.Proofs.YthlghokgknkpaaaGreatDoor
open Go.RowKit Go.Shelf

theorem len_any_s (b bw bs : Nat) (M : SM) (w : World) (h : Lies 74 71 w b bw bs M) (hF : M.Fit) :
    Calls Tryz.prog 47 #[.pointer (some ⟨b, 0, none⟩)] w fun e w' => e = .returned (.int .i64 (M.n : Nat)) ∧ w' = w := by
  have hr := good_range hF.good
  obtain ⟨cw, cs, c0, c1, c2, c3, c4, c5, hcw, hcs⟩ := h.cells
  have hmade := made_any_s b _ _ _ w c2
  rw [decide_eq_true (by omega : 0 < M.ws.length)] at hmade
  go_enter Tryz.func47, Tryz.ntmps47
  go_wp2_with (go_at_call 34; refine hmade.mono ?_; rintro e w ⟨rfl, rfl⟩)
  go_ret
  exact ⟨rfl, rfl⟩

set_option maxRecDepth 100000 in
set_option maxHeartbeats 4000000 in
theorem delete_any_s (b bw bs : Nat) (M : SM) (key : ByteArray) (w : World) (hT : Tab w) (h : Lies 74 71 w b bw bs M) (hS : M.Sane IsV_s) (hk : key.size < 140737488355328) :
    Calls Tryz.prog 12 #[.pointer (some ⟨b, 0, none⟩), .string key] w fun e w' => e = .returned (.bool (M.del key (.string ⟨#[]⟩)).1) ∧ Lies 74 71 w' b bw bs (M.del key (.string ⟨#[]⟩)).2 ∧ But [b, bw, bs] w w' := by
  have hF := hS.fit
  have hr := good_range hF.good
  have hfew := hF.few
  have hfind := find_any_s b bw bs M key w hT h hF hk
  cases hfd : M.find key with
  | none =>
    have hdel : M.del key (.string ⟨#[]⟩) = (false, M) := by unfold SM.del; rw [hfd]
    rw [hdel]
    rw [hfd] at hfind
    clear hfd hdel
    go_enter Tryz.func12, Tryz.ntmps12
    go_wp2_with fail
    refine hfind.mono ?_
    rintro e w1 ⟨rfl, hb⟩
    clear hfind
    go_wp2
    go_ret
    exact ⟨rfl, h.below hb (Nat.le_refl _), But.of_below hb (Nat.le_refl _)⟩
  | some p =>
    obtain ⟨hp1, hp2, hp3, hkey⟩ := find_some hF hfd
    clear hkey
    have hwl := M.what_lt key
    have hn1 : 1 ≤ M.n := hS.some (p / 8) (p % 8) hp2 (Nat.mod_lt _ (by decide)) (by omega)
    obtain ⟨g, i, rfl, hi⟩ : ∃ g i, p = 8 * g + i ∧ i < 8 := ⟨p / 8, p % 8, by omega, Nat.mod_lt _ (by decide)⟩
    have hdel : M.del key (.string ⟨#[]⟩) = (true, { M with ws := M.ws.set g (putN (M.w g) i (if hasE (M.w g) then 128 else 254)), ss := M.ss.set (8 * g + i) (ByteArray.empty, (.string ⟨#[]⟩)), n := M.n - 1, t := if hasE (M.w g) then M.t else M.t + 1 }) := by
      unfold SM.del; rw [hfd]; simp only
      rw [show (8 * g + i) / 8 = g by omega, show (8 * g + i) % 8 = i by omega]
    rw [hdel]
    rw [show (8 * g + i) / 8 = g by omega] at hp2
    rw [hfd] at hfind
    simp only [Int.natCast_add, Int.natCast_mul, Int.cast_ofNat_Int] at hfind
    have hE := hasE_match (M.w g)
    have hwd := hF.words g hp2
    clear hfd hdel hp3
    generalize hwd0 : M.w g = wd at *
    have h8 : (8 * (g : Int) + i) / 8 = g := by omega
    have h9 : (8 * (g : Int) + i) % 8 = i := by omega
    have hs8 := hF.slots
    have hi1 : 8 * (g : Int) + i < M.ss.length := by omega
    have hi0 : 8 * (g : Int) + i ≠ -1 := by omega
    have hi2 : ¬ (8 * (g : Int) + i) < 0 := by omega
    have hm2 := matchN_lt wd 128
    have hwd1 : Hid (M.w g = wd) := hwd0
    by_cases hem : matchN wd 128 = 0
    · have hE' : hasE wd = false := by rw [hE, decide_eq_true hem]; rfl
      clear hE
      simp only [hE', Bool.false_eq_true, if_false]
      clear hE'
      have hd254 : (254 : Nat) < 256 := by decide
      go_enter Tryz.func12, Tryz.ntmps12
      go_wp2_with fail
      refine hfind.mono ?_
      rintro e w1 ⟨rfl, hb⟩
      have hl := h.below hb (Nat.le_refl _)
      obtain ⟨dw, ds, _, _, k2, k3, k4, k5, hdw, hds⟩ := hl.cells
      have kw := hl.word g hp2
      rw [hwd0] at kw
      have f5 := hl.free 5
      have hbut : But [b, bw, bs] w w1 := But.of_below hb (Nat.le_refl _)
      clear hfind hs8 hwd0
      go_wp2_with (go_at_call 41; refine same_mono (empties_any wd _ hwd) ?_; rw [hem])
      have L1 := hl.setT (M.t + 1)
      rw [show ((M.t + 1 : Nat) : Int) = (M.t : Int) + 1 by omega] at L1
      replace hbut := hbut.setCell (p := ⟨b, 5, none⟩) (.inl (by simp)) (.int .i64 ((M.t : Int) + 1))
      clear k2 k3 k4 k5 f5 hl kw
      generalize w1.setCell ⟨b, 5, none⟩ (.int .i64 ((M.t : Int) + 1)) = w2 at *
      obtain ⟨M1, hM10⟩ : ∃ M1 : SM, M1 = { M with t := M.t + 1 } := ⟨_, rfl⟩
      have hM1 : M1.w g = wd := by rw [hM10]; exact hwd1.out
      have hM1n : M1.n = M.n := by rw [hM10]
      rw [← hM10] at L1
      have hp1' : 8 * g + i < M1.ss.length := by rw [hM10]; exact hp1
      have hp2' : g < M1.ws.length := by rw [hM10]; exact hp2
      obtain ⟨w1', s1', _, _, m2, m3, m4, m5, hw1, hs1⟩ := L1.cells
      have hne := L1.ne
      have fw := L1.freeW g
      have kw1 := L1.word g hp2'
      have hM1w : M1.w g = wd := hM1
      rw [hM1w] at kw1
      have ks1 := L1.key (8 * g + i) hp1'
      have ks2 := L1.val (8 * g + i) hp1'
      have fs1 := L1.freeS ((8 * g + i) * 2)
      have fs2 := L1.freeS ((8 * g + i) * 2 + 1)
      have fn1 := L1.free 4
      have hj1 : 8 * (g : Int) + i < M1.ss.length := by omega
      have hj2 : M1.n ≤ 1099511627776 := by rw [hM1n]; omega
      have hni : Hid (((M1.n - 1 : Nat) : Int) = (M1.n : Int) - 1) := by
        show _ = _
        rw [hM1n]; omega
      have HM10 : Hid (M1 = _) := hM10
      clear hM10 hM1 hM1n hM1w h8 h9 hi0 hi2
      refine wp_last (by kernel_rfl) (by kernel_rfl) ?_
      dsimp only [initL, lastL]
      repeat (go_big_quiet_step ((go_at_call 42; exact Calls.quiet_of (set_any wd (i : Int) i 254 (by omega) _ hwd (by omega)))))
      refine wpQuiet_nil ?_
      rintro _ ⟨nq, rfl⟩
      gi_wp2
      have L2 := (L1.drewN nq).setW g (putN wd i 254)
      have hbut2 := (hbut.drewN nq).setCell (p := ⟨bw, g, none⟩) (.inl (by simp)) (.int .u64 ((putN wd i 254 : Nat) : Int))
      generalize (w2.drewN nq).setCell ⟨bw, g, none⟩ (.int .u64 ((putN wd i 254 : Nat) : Int)) = w3 at *
      obtain ⟨w1'', s1'', _, _, n2, n3, n4, n5, _, _⟩ := L2.cells
      have ks1' := L2.key (8 * g + i) hp1'
      have ks2' := L2.val (8 * g + i) hp1'
      have fs1' := L2.freeS ((8 * g + i) * 2)
      have fs2' := L2.freeS ((8 * g + i) * 2 + 1)
      have fn1' := L2.free 4
      clear m2 m3 m4 m5 ks1 ks2 fs1 fs2 fn1 fw kw1 hw1 hs1 hbut
      go_wp2
      go_ret
      refine ⟨rfl, ?_, ?_⟩
      · have hfin := (L2.setS (8 * g + i) ByteArray.empty (.string ⟨#[]⟩)).setN (M1.n - 1)
        rw [hni.out] at hfin
        have hM10 := HM10.out
        subst hM10
        exact hfin
      · exact (((hbut2.setCell (p := ⟨bs, (8 * g + i) * 2, none⟩) (.inl (by simp)) _).setCell (p := ⟨bs, (8 * g + i) * 2 + 1, none⟩) (.inl (by simp)) _).setCell (p := ⟨b, 4, none⟩) (.inl (by simp)) _)
    · have hE' : hasE wd = true := by rw [hE, decide_eq_false hem]; rfl
      clear hE
      simp only [hE', if_true]
      clear hE'
      have hem' : (matchN wd 128 : Int) ≠ 0 := by omega
      go_enter Tryz.func12, Tryz.ntmps12
      go_wp2_with fail
      refine hfind.mono ?_
      rintro e w1 ⟨rfl, hb⟩
      have hl := h.below hb (Nat.le_refl _)
      obtain ⟨dw, ds, _, _, k2, k3, k4, k5, hdw, hds⟩ := hl.cells
      have kw := hl.word g hp2
      rw [hwd0] at kw
      have f5 := hl.free 5
      have hbut : But [b, bw, bs] w w1 := But.of_below hb (Nat.le_refl _)
      clear hfind hs8 hwd0
      go_wp2_with (go_at_call 41; refine same_mono (empties_any wd _ hwd) ?_)
      have L1 := hl
      clear k2 k3 k4 k5 f5 hl kw
      obtain ⟨M1, hM10⟩ : ∃ M1 : SM, M1 = M := ⟨_, rfl⟩
      have hM1 : M1.w g = wd := by rw [hM10]; exact hwd1.out
      have hM1n : M1.n = M.n := by rw [hM10]
      rw [← hM10] at L1
      have hp1' : 8 * g + i < M1.ss.length := by rw [hM10]; exact hp1
      have hp2' : g < M1.ws.length := by rw [hM10]; exact hp2
      obtain ⟨w1', s1', _, _, m2, m3, m4, m5, hw1, hs1⟩ := L1.cells
      have hne := L1.ne
      have fw := L1.freeW g
      have kw1 := L1.word g hp2'
      have hM1w : M1.w g = wd := hM1
      rw [hM1w] at kw1
      have ks1 := L1.key (8 * g + i) hp1'
      have ks2 := L1.val (8 * g + i) hp1'
      have fs1 := L1.freeS ((8 * g + i) * 2)
      have fs2 := L1.freeS ((8 * g + i) * 2 + 1)
      have fn1 := L1.free 4
      have hj1 : 8 * (g : Int) + i < M1.ss.length := by omega
      have hj2 : M1.n ≤ 1099511627776 := by rw [hM1n]; omega
      have hni : Hid (((M1.n - 1 : Nat) : Int) = (M1.n : Int) - 1) := by
        show _ = _
        rw [hM1n]; omega
      have HM10 : Hid (M1 = _) := hM10
      clear hM10 hM1 hM1n hM1w h8 h9 hi0 hi2
      refine wp_last (by kernel_rfl) (by kernel_rfl) ?_
      dsimp only [initL, lastL]
      repeat (go_big_quiet_step ((go_at_call 42; exact Calls.quiet_of (set_any wd (i : Int) i 128 (by omega) _ hwd (by omega)))))
      refine wpQuiet_nil ?_
      rintro _ ⟨nq, rfl⟩
      gi_wp2
      have L2 := (L1.drewN nq).setW g (putN wd i 128)
      have hbut2 := (hbut.drewN nq).setCell (p := ⟨bw, g, none⟩) (.inl (by simp)) (.int .u64 ((putN wd i 128 : Nat) : Int))
      generalize (w1.drewN nq).setCell ⟨bw, g, none⟩ (.int .u64 ((putN wd i 128 : Nat) : Int)) = w3 at *
      obtain ⟨w1'', s1'', _, _, n2, n3, n4, n5, _, _⟩ := L2.cells
      have ks1' := L2.key (8 * g + i) hp1'
      have ks2' := L2.val (8 * g + i) hp1'
      have fs1' := L2.freeS ((8 * g + i) * 2)
      have fs2' := L2.freeS ((8 * g + i) * 2 + 1)
      have fn1' := L2.free 4
      clear m2 m3 m4 m5 ks1 ks2 fs1 fs2 fn1 fw kw1 hw1 hs1 hbut
      go_wp2
      go_ret
      refine ⟨rfl, ?_, ?_⟩
      · have hfin := (L2.setS (8 * g + i) ByteArray.empty (.string ⟨#[]⟩)).setN (M1.n - 1)
        rw [hni.out] at hfin
        have hM10 := HM10.out
        subst hM10
        exact hfin
      · exact (((hbut2.setCell (p := ⟨bs, (8 * g + i) * 2, none⟩) (.inl (by simp)) _).setCell (p := ⟨bs, (8 * g + i) * 2 + 1, none⟩) (.inl (by simp)) _).setCell (p := ⟨b, 4, none⟩) (.inl (by simp)) _)
end Go.Proofs.YthlghokgknkpaaaGreatDoor

/-
  Rows that a call made, and nil slices. No program is named here.
-/
namespace Go.Proofs.YthlghokgknkpaaaGreatDoor
open Go.RowKit Go.Shelf

theorem row_some {w : World} {B : Nat} {e : TypeId} {size n : Nat} {v : Value} {xs : List Value} (h : w.ownsRow B e size v n xs) (hn : 0 < n) : ∃ g cap, v = .slice (some ⟨g, 0, none⟩) n cap ∧ B ≤ g := by
  rcases h.2 with ⟨_, h0⟩ | ⟨g, cap, cur, rfl, hB, _⟩
  · omega
  · exact ⟨g, cap, rfl, hB⟩
theorem equal_slice_nil {P : Program} (d : Nat) (t e : TypeId) (a : Addr) (n c : Nat) (W : World) (h : P.underlying t = some (.slice e)) : (Op.equalIn (d + 1) t (.slice (some a) n c) (.slice none 0 0)).run P W = .ok false W := by
  simp [Op.equalIn, run_underlying h]
theorem row_mono {w : World} {B B' : Nat} {e : TypeId} {size n : Nat} {v : Value} {xs : List Value} (h : w.ownsRow B e size v n xs) (hB : B' ≤ B) : w.ownsRow B' e size v n xs := by
  refine ⟨h.1, ?_⟩
  rcases h.2 with hn | ⟨g, cap, cur, rfl, hb1, rest⟩
  · exact .inl hn
  · exact .inr ⟨g, cap, cur, rfl, Nat.le_trans hB hb1, rest⟩
theorem row_below {w w' : World} {B C : Nat} {e : TypeId} {size n : Nat} {v : Value} {xs : List Value} (h : w.ownsRow B e size v n xs) (hb : Below C w w') (hC : w.heap.size ≤ C) : w'.ownsRow B e size v n xs := by
  refine ⟨h.1, ?_⟩
  rcases h.2 with hn | ⟨g, cap, cur, rfl, hb1, hg, rest⟩
  · exact .inl hn
  · refine .inr ⟨g, cap, cur, rfl, hb1, ?_, rest⟩
    rw [hb.block g (Nat.lt_of_lt_of_le (Array.getElem?_eq_some_iff.1 hg).1 hC)]
    exact hg
theorem row_cells {w : World} {B g n cap size : Nat} {e : TypeId} {xs : List Value} (h : w.ownsRow B e size (.slice (some ⟨g, 0, none⟩) n cap) n xs) : ∀ j u, xs[j]? = some u → w.cell? ((⟨g, 0, none⟩ : Addr).add j) = some u := World.ownsRow.cells h rfl
theorem cellsW_one (ws : List Nat) : ∀ u ∈ cellsW ws, u.oneCell' = true := fun u hu => by
  obtain ⟨n, _, rfl⟩ := List.mem_map.1 hu
  rfl
end Go.Proofs.YthlghokgknkpaaaGreatDoor
