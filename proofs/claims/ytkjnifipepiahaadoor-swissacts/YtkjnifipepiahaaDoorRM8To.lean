import Derived.Test.YtkjnifipepiahaaDoorEndITo
import Derived.Test.YtkjnifipepiahaaDoorSwIsTo
import Derived.Test.YtkjnifipepiahaaDoorRaTo
import Derived.Deep.RegionHeld3
/-
  Contracts: corbelref05's rehash.
-/
namespace Go.Proofs.YtkjnifipepiahaaDoor
open Go.RowKit Go.Shelf

/-- The places of the keys of the first slots. -/
def SM.fullT (M : SM) (j : Nat) : List Nat := (List.range j).filter fun p => decide (byteN (M.w (p / 8)) (p % 8) < 128)
theorem fullT_all (M : SM) : M.fullT (8 * M.ws.length) = M.full := rfl
theorem fullT_yes {M : SM} {g i : Nat} (hi : i < 8) (h : byteN (M.w g) i < 128) : M.fullT (8 * g + i + 1) = M.fullT (8 * g + i) ++ [8 * g + i] := by
  unfold SM.fullT
  rw [List.range_succ, List.filter_append, List.filter_cons_of_pos]
  · rfl
  · rw [show (8 * g + i) / 8 = g by omega, show (8 * g + i) % 8 = i by omega]
    exact decide_eq_true h
theorem fullT_no {M : SM} {g i : Nat} (hi : i < 8) (h : ¬ byteN (M.w g) i < 128) : M.fullT (8 * g + i + 1) = M.fullT (8 * g + i) := by
  unfold SM.fullT
  rw [List.range_succ, List.filter_append, List.filter_cons_of_neg]
  · simp
  · rw [show (8 * g + i) / 8 = g by omega, show (8 * g + i) % 8 = i by omega, decide_eq_false h]
    simp
theorem fullT_lt (M : SM) (j : Nat) : ∀ p ∈ M.fullT j, p < j := fun _ hp => List.mem_range.1 (List.mem_filter.1 hp).1
theorem fullT_len (M : SM) (j : Nat) : (M.fullT j).length ≤ j := by
  unfold SM.fullT
  exact Nat.le_trans (List.length_filter_le _ _) (by simp)
theorem slot_cell {w : World} {x y : Value} {t : TypeId} : (w.alloc (.cells #[x, y] t)).cell? ⟨w.heap.size, 0, none⟩ = some x ∧ (w.alloc (.cells #[x, y] t)).cell? ⟨w.heap.size, 1, none⟩ = some y := by
  have hh := heap_alloc_new w (.cells #[x, y] t)
  refine ⟨?_, ?_⟩
  all_goals
    unfold World.cell?
    dsimp only
    rw [hh]
    rfl

set_option maxRecDepth 100000 in
set_option maxHeartbeats 4000000 in
theorem rrehash_any (b bw bs : Nat) (M : SM) (w : World) (h0 : 0 < w.heap.size) (h : Lies 85 82 w b bw bs M) (hF : M.Fit) (hV : M.Typed IsV_s) (hg : isGood (M.size' : Int) = true) :
    Calls Tryd.prog 56 #[.pointer (some ⟨b, 0, none⟩)] w fun e w' => (∃ u, e = .returned u) ∧ ∃ bw' bs', Lies 85 82 w' b bw' bs' (M.rehash (.string ⟨#[]⟩)) ∧ w.heap.size ≤ bw' ∧ w.heap.size ≤ bs' ∧ But [b] w w' := by
  obtain ⟨cw, cs, c0, c1, c2, c3, c4, c5, hcw, hcs⟩ := h.cells
  have hr := good_range hF.good
  have hlt := h.lt
  have hfew := hF.few
  have hssl := hF.slots
  have hcase : (M.t = 0 ∧ Hid ((M.ws.length : Int) * 2 = (M.size' : Nat))) ∨ (M.t ≠ 0 ∧ 7 * (M.ws.length : Int) < 2 * (M.n : Int) ∧ Hid ((M.ws.length : Int) * 2 = (M.size' : Nat))) ∨ (M.t ≠ 0 ∧ ¬ 7 * (M.ws.length : Int) < 2 * (M.n : Int) ∧ Hid ((M.ws.length : Int) = (M.size' : Nat))) := by
    by_cases ht : M.t = 0
    · refine .inl ⟨ht, ?_⟩
      show _ = _
      unfold SM.size'
      rw [if_pos (.inl ht)]
      omega
    · by_cases hd : 7 * M.ws.length < 2 * M.n
      · refine .inr (.inl ⟨ht, by omega, ?_⟩)
        show _ = _
        unfold SM.size'
        rw [if_pos (.inr hd)]
        omega
      · refine .inr (.inr ⟨ht, by omega, ?_⟩)
        show _ = _
        unfold SM.size'
        rw [if_neg (by omega)]
  go_enter Tryd.func56, Tryd.ntmps56
  rcases hcase with ⟨ht, hs⟩ | ⟨ht, hd, hs⟩ | ⟨ht, hd, hs⟩
  all_goals
    go_wp2_with fail
    apply num_end (fun b' Y => ∃ bw' bs', Lies 85 82 Y b' bw' bs' (SM.empty M.k0 M.k1 (.string ⟨#[]⟩) M.size') ∧ w.heap.size ≤ b' ∧ w.heap.size ≤ bw' ∧ w.heap.size ≤ bs' ∧ Below w.heap.size w Y)
    · have hmd := fun W : World => fun hW => rmade_any M.k0 M.k1 M.size' hs.out hg W hW
      go_region_with (go_at_call 49; refine (hmd _ (by first | exact h0 | (simp; done))).mono ?_; rintro e w1 ⟨b', bw', bs', rfl, hl', g1, g2, g3, hb1⟩)
      all_goals exact EndN.mk b' ⟨bw', bs', hl', g1, g2, g3, below_on hb1⟩
    · rintro b' W ⟨bw', bs', hl', g1, g2, g3, hB1⟩
      clear c0 c1 c2 c3 c4 c5 hcw hcs ht hs
      have hl1 := h.below hB1 (Nat.le_refl _)
      obtain ⟨cw1, cs1, _, _, _, k3, _, _, _, hcs1⟩ := hl1.cells
      go_wp2
      go_loopw [43] (fun t wr => ∃ j : Nat, j ≤ M.ss.length ∧ t = .int .i64 (j : Nat) ∧ Lies 85 82 wr b' bw' bs' (M.re (.string ⟨#[]⟩) (M.fullT j)) ∧ Below w.heap.size w wr) (fun t _ => M.ss.length - (intOf t).toNat)
      case atStart => exact ⟨0, by omega, rfl, hl', hB1⟩
      case round =>
        obtain ⟨j, hj, rfl, hlj, hbr⟩ := hrel
        have hl := h.below hbr (Nat.le_refl _)
        have hzr := hbr.size
        by_cases hlt' : j < M.ss.length
        · obtain ⟨g, i, rfl, hi⟩ : ∃ g i, j = 8 * g + i ∧ i < 8 := ⟨j / 8, j % 8, by omega, Nat.mod_lt _ (by decide)⟩
          have hgl : g < M.ws.length := by omega
          have kk := hl.key _ hlt'
          have kv := hl.val _ hlt'
          obtain ⟨x, hx⟩ := hV _ hlt'
          have hsz := hF.texts _ hlt'
          have hwl := hF.words g hgl
          have hre := re_fit hF hg (.string ⟨#[]⟩) (M.fullT (8 * g + i)) (fun q hq => by have := fullT_lt M _ q hq; omega) (by have := fullT_len M (8 * g + i); omega)
          have hyes : byteN (M.w g) i < 128 → Hid (M.re (.string ⟨#[]⟩) (M.fullT (8 * g + i + 1)) = (M.re (.string ⟨#[]⟩) (M.fullT (8 * g + i))).place (M.s (8 * g + i)).1 (.string x)) := fun hb => by
            show _ = _
            rw [fullT_yes hi hb, re_snoc, hx]
          have hno : ¬ byteN (M.w g) i < 128 → Hid (M.re (.string ⟨#[]⟩) (M.fullT (8 * g + i + 1)) = M.re (.string ⟨#[]⟩) (M.fullT (8 * g + i))) := fun hb => by
            show _ = _
            rw [fullT_no hi hb]
          rw [hx] at kv
          clear hx
          have hBa : Below w.heap.size w (wr.alloc (.cells #[.string (M.s (8 * g + i)).1, .string x] 82)) := hbr.alloc hzr _
          have hBb : Below wr.heap.size wr (wr.alloc (.cells #[.string (M.s (8 * g + i)).1, .string x] 82)) := (Below.refl _ _).alloc (Nat.le_refl _) _
          have hla := h.below hBa (Nat.le_refl _)
          have hlja := hlj.below hBb (Nat.le_refl _)
          obtain ⟨s0, s1⟩ := slot_cell (w := wr) (x := .string (M.s (8 * g + i)).1) (y := .string x) (t := 82)
          obtain ⟨cw2, cs2, _, _, m2, _, _, _, hcw2, _⟩ := hla.cells
          have kw := hla.word g hgl
          have h8 : (8 * (g : Int) + i) / 8 = g := by omega
          have hi1 : 8 * (g : Int) + i < M.ss.length := by omega
          have hlay := rlay_any b' bw' bs' (M.re (.string ⟨#[]⟩) (M.fullT (8 * g + i))) (M.s (8 * g + i)).1 x (wr.alloc (.cells #[.string (M.s (8 * g + i)).1, .string x] 82)) hlja hre.1 hsz (fun g i hg hi he => absurd he (hre.2.1 g i hg hi))
          clear hre hl
          generalize (M.s (8 * g + i)).1 = key at *
          generalize M.w g = wd at *
          simp only [Int.natCast_add, Int.natCast_mul, Int.cast_ofNat_Int]
          by_cases hb : byteN wd i < 128
          · have hu := hyes hb
            have hb' : (byteN wd i : Int) < 128 := by omega
            clear hyes hno hb
            generalize M.re (.string ⟨#[]⟩) (M.fullT (8 * g + i)) = Mp at *
            go_wp2_with fail
            generalize wr.alloc (.cells #[.string key, .string x] 82) = wa at *
            refine same_mono (rget_any wd _ i (by omega) _ hwl) ?_
            go_wp2_with fail
            refine hlay.mono ?_
            rintro e w4 ⟨⟨u, rfl⟩, hl4, hbut4⟩
            clear hlay
            have hB4 : Below w.heap.size w w4 := hBa.trans (hbut4.below (B := w.heap.size) (by simp; omega) hBa.size)
            go_wp2
            go_roundw
            case rel =>
              refine ⟨8 * g + i + 1, by omega, by simp, ?_, hB4⟩
              rw [hu.out]
              exact hl4
            case measure => simp only [intOf]; omega
          · have hu := hno hb
            have hb' : ¬ (byteN wd i : Int) < 128 := by omega
            clear hyes hno hb hlay
            go_wp2_with fail
            generalize wr.alloc (.cells #[.string key, .string x] 82) = wa at *
            refine same_mono (rget_any wd _ i (by omega) _ hwl) ?_
            go_wp2
            go_roundw
            case rel =>
              refine ⟨8 * g + i + 1, by omega, by simp, ?_, hBa⟩
              rw [hu.out]
              exact hlja
            case measure => simp only [intOf]; omega
        · obtain rfl : j = M.ss.length := by omega
          rw [hssl, fullT_all] at hlj
          obtain ⟨dw, ds, j0, j1, j2, j3, j4, j5, _, _⟩ := hlj.cells
          obtain ⟨_, _, i0, i1, i2, i3, i4, i5, _, _⟩ := hl.cells
          have fr := hl.free
          obtain ⟨o0, o1, o2, o3, o4, o5, hobj⟩ := hl.obj
          have hcp := hlj.copy (b := b) hobj (by omega) h.pos.1 j2 j3
          have hbt : But [b] w _ := (But.of_below (S := [b]) hbr (Nat.le_refl _)).set6 (b := b) (.inl (by simp)) (.int .u64 (M.re (.string ⟨#[]⟩) M.full).k0) (.int .u64 (M.re (.string ⟨#[]⟩) M.full).k1) (.slice (some ⟨bw', 0, none⟩) (M.re (.string ⟨#[]⟩) M.full).ws.length dw) (.slice (some ⟨bs', 0, none⟩) (M.re (.string ⟨#[]⟩) M.full).ss.length ds) (.int .i64 ((M.re (.string ⟨#[]⟩) M.full).n : Int)) (.int .i64 ((M.re (.string ⟨#[]⟩) M.full).t : Int))
          have hre0 : Hid (M.rehash (.string ⟨#[]⟩) = M.re (.string ⟨#[]⟩) M.full) := re_full _ _
          generalize M.re (.string ⟨#[]⟩) M.full = Mr at *
          go_wp2
          go_end0
          exact ⟨⟨_, rfl⟩, bw', bs', by rw [hre0.out]; exact hcp, by omega, by omega, hbt⟩
end Go.Proofs.YtkjnifipepiahaaDoor

/-
  Contracts: corbelref05's Put.
-/
namespace Go.Proofs.YtkjnifipepiahaaDoor
open Go.RowKit Go.Shelf

set_option maxRecDepth 100000 in
set_option maxHeartbeats 4000000 in
theorem rput_any (b bw bs : Nat) (M : SM) (key : ByteArray) (sv : ByteArray) (w : World) (_h0 : 0 < w.heap.size) (h : Lies 85 82 w b bw bs M) (hS : M.Sane IsV_s) (hk : key.size < 140737488355328) :
    Calls Tryd.prog 14 #[.pointer (some ⟨b, 0, none⟩), .string key, .string sv] w fun e w' => e = .returned (.tuple #[.bool (M.put key (.string sv) (.string ⟨#[]⟩)).1, .int .i64 ((M.put key (.string sv) (.string ⟨#[]⟩)).2.1 : Nat)]) ∧
      ∃ bw' bs', Lies 85 82 w' b bw' bs' (M.put key (.string sv) (.string ⟨#[]⟩)).2.2 ∧ But [b, bw, bs] w w' ∧ (bw' = bw ∨ w.heap.size ≤ bw') ∧ (bs' = bs ∨ w.heap.size ≤ bs') := by
  have hF := hS.fit
  have hr := good_range hF.good
  have hfew := hF.few
  have hlt := h.lt
  obtain ⟨cw, cs, c0, c1, c2, c3, c4, c5, hcw, hcs⟩ := h.cells
  have hfind := rfind_any b bw bs M key w h hF hk
  cases hfd : M.find key with
  | some p =>
    obtain ⟨hp1, _, _, _⟩ := find_some hF hfd
    have hput : M.put key (.string sv) (.string ⟨#[]⟩) = (true, 0, { M with ss := M.ss.set p ((M.s p).1, .string sv) }) := by unfold SM.put; rw [hfd]
    rw [hput]
    rw [hfd] at hfind
    clear hput hfd
    go_enter Tryd.func14, Tryd.ntmps14
    go_wp2_with fail
    refine hfind.mono ?_
    rintro e w1 ⟨rfl, hb⟩
    have hl := h.below hb (Nat.le_refl _)
    obtain ⟨dw, ds, _, _, _, k3, _, _, _, hds⟩ := hl.cells
    have kv := hl.val p hp1
    have fv := hl.freeS (p * 2 + 1)
    have hp2 : (p : Int) < M.ss.length := by omega
    have hp3 : (0 : Int) ≤ (p : Int) := by omega
    have hset := hl.setV p (.string sv) hp1
    clear c0 c1 c2 c3 c4 c5
    go_wp2
    go_ret2
    exact ⟨rfl, bw, bs, hset, (But.of_below hb (Nat.le_refl _)).setCell (p := ⟨bs, p * 2 + 1, none⟩) (.inl (by simp)) _, .inl rfl, .inl rfl⟩
  | none =>
    rw [hfd] at hfind
    by_cases hfull : 2000 ≤ M.n
    · have hput : M.put key (.string sv) (.string ⟨#[]⟩) = (false, 7, M) := by unfold SM.put; rw [hfd]; simp only; rw [if_pos hfull]
      rw [hput]
      clear hput hfd
      go_enter Tryd.func14, Tryd.ntmps14
      go_wp2_with fail
      refine hfind.mono ?_
      rintro e w1 ⟨rfl, hb⟩
      have hl := h.below hb (Nat.le_refl _)
      obtain ⟨dw, ds, _, _, _, _, k4, _, _, _⟩ := hl.cells
      clear c0 c1 c2 c3 c4 c5
      go_wp2
      go_ret2
      exact ⟨rfl, bw, bs, hl, But.of_below hb (Nat.le_refl _), .inl rfl, .inl rfl⟩
    · by_cases hroom : 7 * M.ws.length ≤ M.n + M.t
      · have hput : M.put key (.string sv) (.string ⟨#[]⟩) = (false, 0, (M.rehash (.string ⟨#[]⟩)).place key (.string sv)) := by unfold SM.put; rw [hfd]; simp only; rw [if_neg hfull, if_pos hroom]
        rw [hput]
        have hg := hS.room hroom (by omega)
        obtain ⟨f1, f2, f3⟩ := rehash_fit hF hg (.string ⟨#[]⟩)
        clear hput hfd
        go_enter Tryd.func14, Tryd.ntmps14
        go_wp2_with fail
        refine hfind.mono ?_
        rintro e w1 ⟨rfl, hb⟩
        have hl := h.below hb (Nat.le_refl _)
        obtain ⟨dw, ds, _, _, k2, _, k4, k5, _, _⟩ := hl.cells
        have hz := hb.size
        clear c0 c1 c2 c3 c4 c5
        have hi1 : 7 * (M.ws.length : Int) ≤ M.n + M.t := by omega
        have hi2 : ¬ 2000 ≤ (M.n : Int) := by omega
        go_wp2
        go_quiet (fail)
        go_wp2_with fail
        refine (rrehash_any b bw bs M (w1.drewN nq) (by show 0 < w1.heap.size; have := hb.size; omega) (hl.drewN nq) hF hS.typed hg).mono ?_
        rintro e w2 ⟨⟨u, rfl⟩, bw', bs', hl2, g1, g2, hb2⟩
        go_wp2_with fail
        refine (rlay_any b bw' bs' (M.rehash (.string ⟨#[]⟩)) key sv w2 hl2 f1 hk (fun g i hg hi he => absurd he (f2 g i hg hi))).mono ?_
        rintro e w3 ⟨⟨u, rfl⟩, hl3, hb3⟩
        go_wp2
        go_ret2
        have g1' : w.heap.size ≤ bw' := Nat.le_trans hz g1
        have g2' : w.heap.size ≤ bs' := Nat.le_trans hz g2
        have hbb : But [b, bw, bs] w w2 := ((But.of_below hb (Nat.le_refl _)).drewN nq).wide hb2 (by simp)
        exact ⟨rfl, bw', bs', hl3, hbb.wide hb3 (by simp; omega), .inr g1', .inr g2'⟩
      · have hput : M.put key (.string sv) (.string ⟨#[]⟩) = (false, 0, M.place key (.string sv)) := by unfold SM.put; rw [hfd]; simp only; rw [if_neg hfull, if_neg hroom]
        rw [hput]
        clear hput hfd
        go_enter Tryd.func14, Tryd.ntmps14
        go_wp2_with fail
        refine hfind.mono ?_
        rintro e w1 ⟨rfl, hb⟩
        have hl := h.below hb (Nat.le_refl _)
        obtain ⟨dw, ds, _, _, k2, _, k4, k5, _, _⟩ := hl.cells
        clear c0 c1 c2 c3 c4 c5
        have hi1 : ¬ 7 * (M.ws.length : Int) ≤ M.n + M.t := by omega
        have hi2 : ¬ 2000 ≤ (M.n : Int) := by omega
        go_wp2
        go_quiet (fail)
        go_wp2_with fail
        refine (rlay_any b bw bs M key sv (w1.drewN nq) (hl.drewN nq) hF hk hS.tombs).mono ?_
        rintro e w3 ⟨⟨u, rfl⟩, hl3, hb3⟩
        go_wp2
        go_ret2
        exact ⟨rfl, bw, bs, hl3, ((But.of_below hb (Nat.le_refl _)).drewN nq).trans hb3, .inl rfl, .inl rfl⟩
end Go.Proofs.YtkjnifipepiahaaDoor

/-
  Contract: corbellaw05.alike, of two maps that are the same as lists.
-/
namespace Go.Proofs.YtkjnifipepiahaaDoor
open Go.RowKit Go.Shelf

theorem Lies.wordsR {tM tS : TypeId} {w : World} {b bw bs : Nat} {M : SM} (h : Lies tM tS w b bw bs M) : ∃ cw, w.cell? ⟨b, 2, none⟩ = some (.slice (some ⟨bw, 0, none⟩) M.ws.length cw) ∧ HasW w (.slice (some ⟨bw, 0, none⟩) M.ws.length cw) M.ws := by
  obtain ⟨cw, cs, h1, h2, h3⟩ := h.row
  refine ⟨cw, ?_, hasW_owns h2⟩
  unfold World.cell?
  dsimp only
  rw [h1]
  rfl
theorem words_at {tM tS : TypeId} {w : World} {b bw bs cw : Nat} {M : SM} {q : Option Addr} (h : Lies tM tS w b bw bs M) (hc : w.cell? ⟨b, 2, none⟩ = some (.slice q M.ws.length cw)) : HasW w (.slice q M.ws.length cw) M.ws := by
  obtain ⟨cw', h1, h2⟩ := h.wordsR
  rw [hc] at h1
  simp only [Option.some.injEq] at h1
  rw [h1]
  exact h2
theorem on_below {w W : World} (h : Below w.drew.heap.size w.drew W) : Below w.heap.size w W := ⟨h.os, h.tape, h.output, h.size, h.block⟩

theorem hold3 {w : World} {c : Nat} {x y z : Value} (h4 : w.cell? ⟨c, 4, none⟩ = some x) (h5 : w.cell? ⟨c, 5, none⟩ = some y) (h2 : w.cell? ⟨c, 2, none⟩ = some z) : w.drew.cell? ⟨c, 4, none⟩ = some x ∧ w.drew.cell? ⟨c, 5, none⟩ = some y ∧ w.drew.cell? ⟨c, 2, none⟩ = some z ∧ Below w.heap.size w w.drew :=
  ⟨h4, h5, h2, ⟨rfl, rfl, rfl, Nat.le_refl _, fun _ _ => rfl⟩⟩
theorem keep3 {w w1 w2 : World} {c : Nat} {x y z : Value} (hc : c < w.heap.size) (hb : Below w1.heap.size w1 w2) (h : w1.cell? ⟨c, 4, none⟩ = some x ∧ w1.cell? ⟨c, 5, none⟩ = some y ∧ w1.cell? ⟨c, 2, none⟩ = some z ∧ Below w.heap.size w w1) : w2.cell? ⟨c, 4, none⟩ = some x ∧ w2.cell? ⟨c, 5, none⟩ = some y ∧ w2.cell? ⟨c, 2, none⟩ = some z ∧ Below w.heap.size w w2 := by
  obtain ⟨h4, h5, h2, hw⟩ := h
  have hz := hw.size
  exact ⟨(hb.cell (p := ⟨c, 4, none⟩) (by show c < _; omega)).trans h4, (hb.cell (p := ⟨c, 5, none⟩) (by show c < _; omega)).trans h5, (hb.cell (p := ⟨c, 2, none⟩) (by show c < _; omega)).trans h2, hw.trans (hb.mono hz)⟩
theorem held3 {w w1 : World} {c : Nat} {x y z : Value} (h : w1.cell? ⟨c, 4, none⟩ = some x ∧ w1.cell? ⟨c, 5, none⟩ = some y ∧ w1.cell? ⟨c, 2, none⟩ = some z ∧ Below w.heap.size w w1) : Below w.heap.size w w1 := h.2.2.2
theorem held2' {w w1 : World} {c : Nat} {x y z : Value} (h : w1.cell? ⟨c, 4, none⟩ = some x ∧ w1.cell? ⟨c, 5, none⟩ = some y ∧ w1.cell? ⟨c, 2, none⟩ = some z ∧ Below w.heap.size w w1) : w1.cell? ⟨c, 2, none⟩ = some z := h.2.2.1

set_option maxRecDepth 100000 in
set_option maxHeartbeats 4000000 in
theorem alike_any (b bw bs c cw cs : Nat) (M : SM) (w : World) (hT : Tab w) (hl : Lies 79 76 w b bw bs M) (hr : Lies 85 82 w c cw cs M) (hinv : M.Inv IsV_s) (hn : M.n ≤ 2000) :
    Calls Tryd.prog 20 #[.pointer (some ⟨b, 0, none⟩), .pointer (some ⟨c, 0, none⟩)] w fun e w' => e = .returned (.bool true) ∧ Below w.heap.size w w' := by
  have hg := good_range hinv.fit.good
  have hsl : Hid (M.ws.length ≤ 1099511627776 ∧ M.keys.length ≤ 1099511627776) := by
    refine ⟨by omega, ?_⟩
    rw [keys_len hinv]
    omega
  obtain ⟨dw, ds, _, _, k2, _, k4, k5, _, _⟩ := hr.cells
  have s0 := hold3 k4 k5 k2
  have hcl := hr.lt.1
  replace hT : Hid (Tab w) := hT
  replace hl : Hid (Lies 79 76 w b bw bs M) := hl
  replace hr : Hid (Lies 85 82 w c cw cs M) := hr
  replace hinv : Hid (M.Inv IsV_s) := hinv
  clear hg hn k2 k4 k5
  go_enter Tryd.func20, Tryd.ntmps20
  go_wp2_with fail
  go_region_held3 (fun w' => w'.cell? ⟨c, 4, none⟩ = some (.int .i64 (M.n : Int)) ∧ w'.cell? ⟨c, 5, none⟩ = some (.int .i64 (M.t : Int)) ∧ w'.cell? ⟨c, 2, none⟩ = some (.slice (some ⟨cw, 0, none⟩) M.ws.length dw) ∧ Below w.heap.size w w')
    (first | exact s0 | exact keep3 hcl (by assumption) (by assumption))
    (first
      | (go_at_call 21; refine same_mono (len_any_s b bw bs M _ (hl.out.below (held3 (by assumption)) (Nat.le_refl _)) hinv.out.fit) ?_)
      | (go_at_call 27; refine same_mono (tombs_any_s b bw bs M _ (hl.out.below (held3 (by assumption)) (Nat.le_refl _)) hinv.out.fit) ?_)
      | (go_at_call 22; refine (controls_any_s b bw bs M _ (hl.out.below (held3 (by assumption)) (Nat.le_refl _)) hinv.out.fit).mono ?_; rintro e w1 ⟨ga, ca, rfl, _, oa, hb1⟩; replace oa : Hid (HasW w1 _ M.ws) := hasW_owns oa)
      | (go_at_call 29; refine (words_any _ _ M.ws M.ws _ oa.out (words_at (hr.out.below (held3 (by assumption)) (Nat.le_refl _)) (held2' (by assumption))) hsl.out.1 hsl.out.1).mono ?_; rintro e w2 ⟨rfl, hb2⟩; rw [decide_eq_true rfl])
      | (go_at_call 28; refine (keys_any_s b bw bs M _ (hT.out.below (held3 (by assumption)) hT.out.1) (hl.out.below (held3 (by assumption)) (Nat.le_refl _)) hinv.out.fit (full_n hinv.out)).mono ?_; rintro e w3 ⟨gc, rfl, _, oc, hb3⟩; replace oc : Hid (HasT w3 _ M.keys) := hasT_owns (xs := M.keys) (by rw [keys_len hinv.out]; exact oc))
      | (go_at_call 63; refine (rkeys_any c cw cs M _ (hr.out.below (held3 (by assumption)) (Nat.le_refl _)) hinv.out.fit).mono ?_; rintro e w4 ⟨v4, rfl, o4, hb4⟩; replace o4 : Hid (HasT w4 v4 M.keys) := hasT_owns o4; replace oc : Hid (HasT w4 _ M.keys) := oc.out.below hb4 (Nat.le_refl _))
      | (go_at_call 30; refine (texts_any _ _ M.keys M.keys _ oc.out o4.out hsl.out.2 hsl.out.2).mono ?_; rintro e w5 ⟨rfl, hb5⟩; rw [decide_eq_true rfl]))
  go_wp2
  go_ret
  exact ⟨rfl, held3 (by assumption)⟩
end Go.Proofs.YtkjnifipepiahaaDoor
