import Derived.Test.YthlghokgknkpaaaGreatDoorRM5To
import Derived.Test.YthlghokgknkpaaaGreatDoorSwGsTo
import Derived.Test.YthlghokgknkpaaaGreatDoorImBkTo
import Derived.Test.YthlghokgknkpaaaGreatDoorSwB3To
import Derived.Test.YthlghokgknkpaaaGreatDoorHeldtTo
import Derived.Test.YthlghokgknkpaaaGreatDoorImQTo
/-
  Contracts: corbelref05's rehash.
-/
namespace Go.Proofs.YthlghokgknkpaaaGreatDoor
open Go.RowKit Go.Shelf

/-- The places of the keys of the first slots. -/
def SM.fullT (M : SM) (j : Nat) : List Nat := (List.range j).filter fun p => decide (byteN (M.w (p / 8)) (p % 8) < 128)
theorem fullT_all (M : SM) : M.fullT (8 * M.ws.length) = M.full := rfl
theorem fullT_yes {M : SM} {g i : Nat} (hi : i < 8) (h : byteN (M.w g) i < 128) : M.fullT (8 * g + i + 1) = M.fullT (8 * g + i) ++ [8 * g + i] := by
  unfold SM.fullT
  rw [List.range_succ, List.filter_append, List.filter_cons_of_pos]
  · rfl
  · rw [show (8 * g + i) / 8 = g by omega, show (8 * g + i) % 8 = i by omega]
    exact decide_eq_true h
theorem fullT_no {M : SM} {g i : Nat} (hi : i < 8) (h : ¬ byteN (M.w g) i < 128) : M.fullT (8 * g + i + 1) = M.fullT (8 * g + i) := by
  unfold SM.fullT
  rw [List.range_succ, List.filter_append, List.filter_cons_of_neg]
  · simp
  · rw [show (8 * g + i) / 8 = g by omega, show (8 * g + i) % 8 = i by omega, decide_eq_false h]
    simp
theorem fullT_lt (M : SM) (j : Nat) : ∀ p ∈ M.fullT j, p < j := fun _ hp => List.mem_range.1 (List.mem_filter.1 hp).1
theorem fullT_len (M : SM) (j : Nat) : (M.fullT j).length ≤ j := by
  unfold SM.fullT
  exact Nat.le_trans (List.length_filter_le _ _) (by simp)
theorem slot_cell {w : World} {x y : Value} {t : TypeId} : (w.alloc (.cells #[x, y] t)).cell? ⟨w.heap.size, 0, none⟩ = some x ∧ (w.alloc (.cells #[x, y] t)).cell? ⟨w.heap.size, 1, none⟩ = some y := by
  have hh := heap_alloc_new w (.cells #[x, y] t)
  refine ⟨?_, ?_⟩
  all_goals
    unfold World.cell?
    dsimp only
    rw [hh]
    rfl

set_option maxRecDepth 100000 in
set_option maxHeartbeats 4000000 in
theorem rrehash_any (b bw bs : Nat) (M : SM) (w : World) (h0 : 0 < w.heap.size) (h : Lies 63 76 w b bw bs M) (hF : M.Fit) (hV : M.Typed IsV_s) (hg : isGood (M.size' : Int) = true) :
    Calls Tryz.prog 39 #[.pointer (some ⟨b, 0, none⟩)] w fun e w' => (∃ u, e = .returned u) ∧ ∃ bw' bs', Lies 63 76 w' b bw' bs' (M.rehash (.string ⟨#[]⟩)) ∧ w.heap.size ≤ bw' ∧ w.heap.size ≤ bs' ∧ But [b] w w' := by
  obtain ⟨cw, cs, c0, c1, c2, c3, c4, c5, hcw, hcs⟩ := h.cells
  have hr := good_range hF.good
  have hlt := h.lt
  have hfew := hF.few
  have hssl := hF.slots
  have hcase : (M.t = 0 ∧ Hid ((M.ws.length : Int) * 2 = (M.size' : Nat))) ∨ (M.t ≠ 0 ∧ 7 * (M.ws.length : Int) < 2 * (M.n : Int) ∧ Hid ((M.ws.length : Int) * 2 = (M.size' : Nat))) ∨ (M.t ≠ 0 ∧ ¬ 7 * (M.ws.length : Int) < 2 * (M.n : Int) ∧ Hid ((M.ws.length : Int) = (M.size' : Nat))) := by
    by_cases ht : M.t = 0
    · refine .inl ⟨ht, ?_⟩
      show _ = _
      unfold SM.size'
      rw [if_pos (.inl ht)]
      omega
    · by_cases hd : 7 * M.ws.length < 2 * M.n
      · refine .inr (.inl ⟨ht, by omega, ?_⟩)
        show _ = _
        unfold SM.size'
        rw [if_pos (.inr hd)]
        omega
      · refine .inr (.inr ⟨ht, by omega, ?_⟩)
        show _ = _
        unfold SM.size'
        rw [if_neg (by omega)]
  go_enter Tryz.func39, Tryz.ntmps39
  rcases hcase with ⟨ht, hs⟩ | ⟨ht, hd, hs⟩ | ⟨ht, hd, hs⟩
  all_goals
    go_wp2_with fail
    apply num_end (fun b' Y => ∃ bw' bs', Lies 63 76 Y b' bw' bs' (SM.empty M.k0 M.k1 (.string ⟨#[]⟩) M.size') ∧ w.heap.size ≤ b' ∧ w.heap.size ≤ bw' ∧ w.heap.size ≤ bs' ∧ Below w.heap.size w Y)
    · have hmd := fun W : World => fun hW => rmade_any M.k0 M.k1 M.size' hs.out hg W hW
      go_region_with (go_at_call 32; refine (hmd _ (by first | exact h0 | (simp; done))).mono ?_; rintro e w1 ⟨b', bw', bs', rfl, hl', g1, g2, g3, hb1⟩)
      all_goals exact EndN.mk b' ⟨bw', bs', hl', g1, g2, g3, below_on hb1⟩
    · rintro b' W ⟨bw', bs', hl', g1, g2, g3, hB1⟩
      clear c0 c1 c2 c3 c4 c5 hcw hcs ht hs
      have hl1 := h.below hB1 (Nat.le_refl _)
      obtain ⟨cw1, cs1, _, _, _, k3, _, _, _, hcs1⟩ := hl1.cells
      go_wp2
      go_loopw [43] (fun t wr => ∃ j : Nat, j ≤ M.ss.length ∧ t = .int .i64 (j : Nat) ∧ Lies 63 76 wr b' bw' bs' (M.re (.string ⟨#[]⟩) (M.fullT j)) ∧ Below w.heap.size w wr) (fun t _ => M.ss.length - (intOf t).toNat)
      case atStart => exact ⟨0, by omega, rfl, hl', hB1⟩
      case round =>
        obtain ⟨j, hj, rfl, hlj, hbr⟩ := hrel
        have hl := h.below hbr (Nat.le_refl _)
        have hzr := hbr.size
        by_cases hlt' : j < M.ss.length
        · obtain ⟨g, i, rfl, hi⟩ : ∃ g i, j = 8 * g + i ∧ i < 8 := ⟨j / 8, j % 8, by omega, Nat.mod_lt _ (by decide)⟩
          have hgl : g < M.ws.length := by omega
          have kk := hl.key _ hlt'
          have kv := hl.val _ hlt'
          obtain ⟨x, hx⟩ := hV _ hlt'
          have hsz := hF.texts _ hlt'
          have hwl := hF.words g hgl
          have hre := re_fit hF hg (.string ⟨#[]⟩) (M.fullT (8 * g + i)) (fun q hq => by have := fullT_lt M _ q hq; omega) (by have := fullT_len M (8 * g + i); omega)
          have hyes : byteN (M.w g) i < 128 → Hid (M.re (.string ⟨#[]⟩) (M.fullT (8 * g + i + 1)) = (M.re (.string ⟨#[]⟩) (M.fullT (8 * g + i))).place (M.s (8 * g + i)).1 (.string x)) := fun hb => by
            show _ = _
            rw [fullT_yes hi hb, re_snoc, hx]
          have hno : ¬ byteN (M.w g) i < 128 → Hid (M.re (.string ⟨#[]⟩) (M.fullT (8 * g + i + 1)) = M.re (.string ⟨#[]⟩) (M.fullT (8 * g + i))) := fun hb => by
            show _ = _
            rw [fullT_no hi hb]
          rw [hx] at kv
          clear hx
          have hBa : Below w.heap.size w (wr.alloc (.cells #[.string (M.s (8 * g + i)).1, .string x] 76)) := hbr.alloc hzr _
          have hBb : Below wr.heap.size wr (wr.alloc (.cells #[.string (M.s (8 * g + i)).1, .string x] 76)) := (Below.refl _ _).alloc (Nat.le_refl _) _
          have hla := h.below hBa (Nat.le_refl _)
          have hlja := hlj.below hBb (Nat.le_refl _)
          obtain ⟨s0, s1⟩ := slot_cell (w := wr) (x := .string (M.s (8 * g + i)).1) (y := .string x) (t := 76)
          obtain ⟨cw2, cs2, _, _, m2, _, _, _, hcw2, _⟩ := hla.cells
          have kw := hla.word g hgl
          have h8 : (8 * (g : Int) + i) / 8 = g := by omega
          have hi1 : 8 * (g : Int) + i < M.ss.length := by omega
          have hlay := rlay_any b' bw' bs' (M.re (.string ⟨#[]⟩) (M.fullT (8 * g + i))) (M.s (8 * g + i)).1 x (wr.alloc (.cells #[.string (M.s (8 * g + i)).1, .string x] 76)) hlja hre.1 hsz (fun g i hg hi he => absurd he (hre.2.1 g i hg hi))
          clear hre hl
          generalize (M.s (8 * g + i)).1 = key at *
          generalize M.w g = wd at *
          simp only [Int.natCast_add, Int.natCast_mul, Int.cast_ofNat_Int]
          by_cases hb : byteN wd i < 128
          · have hu := hyes hb
            have hb' : (byteN wd i : Int) < 128 := by omega
            clear hyes hno hb
            generalize M.re (.string ⟨#[]⟩) (M.fullT (8 * g + i)) = Mp at *
            go_wp2_with fail
            generalize wr.alloc (.cells #[.string key, .string x] 76) = wa at *
            refine same_mono (rget_any wd _ i (by omega) _ hwl) ?_
            go_wp2_with fail
            refine hlay.mono ?_
            rintro e w4 ⟨⟨u, rfl⟩, hl4, hbut4⟩
            clear hlay
            have hB4 : Below w.heap.size w w4 := hBa.trans (hbut4.below (B := w.heap.size) (by simp; omega) hBa.size)
            go_wp2
            go_roundw
            case rel =>
              refine ⟨8 * g + i + 1, by omega, by simp, ?_, hB4⟩
              rw [hu.out]
              exact hl4
            case measure => simp only [intOf]; omega
          · have hu := hno hb
            have hb' : ¬ (byteN wd i : Int) < 128 := by omega
            clear hyes hno hb hlay
            go_wp2_with fail
            generalize wr.alloc (.cells #[.string key, .string x] 76) = wa at *
            refine same_mono (rget_any wd _ i (by omega) _ hwl) ?_
            go_wp2
            go_roundw
            case rel =>
              refine ⟨8 * g + i + 1, by omega, by simp, ?_, hBa⟩
              rw [hu.out]
              exact hlja
            case measure => simp only [intOf]; omega
        · obtain rfl : j = M.ss.length := by omega
          rw [hssl, fullT_all] at hlj
          obtain ⟨dw, ds, j0, j1, j2, j3, j4, j5, _, _⟩ := hlj.cells
          obtain ⟨_, _, i0, i1, i2, i3, i4, i5, _, _⟩ := hl.cells
          have fr := hl.free
          obtain ⟨o0, o1, o2, o3, o4, o5, hobj⟩ := hl.obj
          have hcp := hlj.copy (b := b) hobj (by omega) h.pos.1 j2 j3
          have hbt : But [b] w _ := (But.of_below (S := [b]) hbr (Nat.le_refl _)).set6 (b := b) (.inl (by simp)) (.int .u64 (M.re (.string ⟨#[]⟩) M.full).k0) (.int .u64 (M.re (.string ⟨#[]⟩) M.full).k1) (.slice (some ⟨bw', 0, none⟩) (M.re (.string ⟨#[]⟩) M.full).ws.length dw) (.slice (some ⟨bs', 0, none⟩) (M.re (.string ⟨#[]⟩) M.full).ss.length ds) (.int .i64 ((M.re (.string ⟨#[]⟩) M.full).n : Int)) (.int .i64 ((M.re (.string ⟨#[]⟩) M.full).t : Int))
          have hre0 : Hid (M.rehash (.string ⟨#[]⟩) = M.re (.string ⟨#[]⟩) M.full) := re_full _ _
          generalize M.re (.string ⟨#[]⟩) M.full = Mr at *
          go_wp2
          go_end0
          exact ⟨⟨_, rfl⟩, bw', bs', by rw [hre0.out]; exact hcp, by omega, by omega, hbt⟩
end Go.Proofs.YthlghokgknkpaaaGreatDoor

/-
  Contracts: corbelref05's Put.
-/
namespace Go.Proofs.YthlghokgknkpaaaGreatDoor
open Go.RowKit Go.Shelf

set_option maxRecDepth 100000 in
set_option maxHeartbeats 4000000 in
theorem rput_any (b bw bs : Nat) (M : SM) (key : ByteArray) (sv : ByteArray) (w : World) (_h0 : 0 < w.heap.size) (h : Lies 63 76 w b bw bs M) (hS : M.Sane IsV_s) (hk : key.size < 140737488355328) :
    Calls Tryz.prog 11 #[.pointer (some ⟨b, 0, none⟩), .string key, .string sv] w fun e w' => e = .returned (.tuple #[.bool (M.put key (.string sv) (.string ⟨#[]⟩)).1, .int .i64 ((M.put key (.string sv) (.string ⟨#[]⟩)).2.1 : Nat)]) ∧
      ∃ bw' bs', Lies 63 76 w' b bw' bs' (M.put key (.string sv) (.string ⟨#[]⟩)).2.2 ∧ But [b, bw, bs] w w' ∧ (bw' = bw ∨ w.heap.size ≤ bw') ∧ (bs' = bs ∨ w.heap.size ≤ bs') := by
  have hF := hS.fit
  have hr := good_range hF.good
  have hfew := hF.few
  have hlt := h.lt
  obtain ⟨cw, cs, c0, c1, c2, c3, c4, c5, hcw, hcs⟩ := h.cells
  have hfind := rfind_any b bw bs M key w h hF hk
  cases hfd : M.find key with
  | some p =>
    obtain ⟨hp1, _, _, _⟩ := find_some hF hfd
    have hput : M.put key (.string sv) (.string ⟨#[]⟩) = (true, 0, { M with ss := M.ss.set p ((M.s p).1, .string sv) }) := by unfold SM.put; rw [hfd]
    rw [hput]
    rw [hfd] at hfind
    clear hput hfd
    go_enter Tryz.func11, Tryz.ntmps11
    go_wp2_with fail
    refine hfind.mono ?_
    rintro e w1 ⟨rfl, hb⟩
    have hl := h.below hb (Nat.le_refl _)
    obtain ⟨dw, ds, _, _, _, k3, _, _, _, hds⟩ := hl.cells
    have kv := hl.val p hp1
    have fv := hl.freeS (p * 2 + 1)
    have hp2 : (p : Int) < M.ss.length := by omega
    have hp3 : (0 : Int) ≤ (p : Int) := by omega
    have hset := hl.setV p (.string sv) hp1
    clear c0 c1 c2 c3 c4 c5
    go_wp2
    go_ret2
    exact ⟨rfl, bw, bs, hset, (But.of_below hb (Nat.le_refl _)).setCell (p := ⟨bs, p * 2 + 1, none⟩) (.inl (by simp)) _, .inl rfl, .inl rfl⟩
  | none =>
    rw [hfd] at hfind
    by_cases hfull : 2000 ≤ M.n
    · have hput : M.put key (.string sv) (.string ⟨#[]⟩) = (false, 7, M) := by unfold SM.put; rw [hfd]; simp only; rw [if_pos hfull]
      rw [hput]
      clear hput hfd
      go_enter Tryz.func11, Tryz.ntmps11
      go_wp2_with fail
      refine hfind.mono ?_
      rintro e w1 ⟨rfl, hb⟩
      have hl := h.below hb (Nat.le_refl _)
      obtain ⟨dw, ds, _, _, _, _, k4, _, _, _⟩ := hl.cells
      clear c0 c1 c2 c3 c4 c5
      go_wp2
      go_ret2
      exact ⟨rfl, bw, bs, hl, But.of_below hb (Nat.le_refl _), .inl rfl, .inl rfl⟩
    · by_cases hroom : 7 * M.ws.length ≤ M.n + M.t
      · have hput : M.put key (.string sv) (.string ⟨#[]⟩) = (false, 0, (M.rehash (.string ⟨#[]⟩)).place key (.string sv)) := by unfold SM.put; rw [hfd]; simp only; rw [if_neg hfull, if_pos hroom]
        rw [hput]
        have hg := hS.room hroom (by omega)
        obtain ⟨f1, f2, f3⟩ := rehash_fit hF hg (.string ⟨#[]⟩)
        clear hput hfd
        go_enter Tryz.func11, Tryz.ntmps11
        go_wp2_with fail
        refine hfind.mono ?_
        rintro e w1 ⟨rfl, hb⟩
        have hl := h.below hb (Nat.le_refl _)
        obtain ⟨dw, ds, _, _, k2, _, k4, k5, _, _⟩ := hl.cells
        have hz := hb.size
        clear c0 c1 c2 c3 c4 c5
        have hi1 : 7 * (M.ws.length : Int) ≤ M.n + M.t := by omega
        have hi2 : ¬ 2000 ≤ (M.n : Int) := by omega
        go_wp2
        go_quiet (fail)
        go_wp2_with fail
        refine (rrehash_any b bw bs M (w1.drewN nq) (by show 0 < w1.heap.size; have := hb.size; omega) (hl.drewN nq) hF hS.typed hg).mono ?_
        rintro e w2 ⟨⟨u, rfl⟩, bw', bs', hl2, g1, g2, hb2⟩
        go_wp2_with fail
        refine (rlay_any b bw' bs' (M.rehash (.string ⟨#[]⟩)) key sv w2 hl2 f1 hk (fun g i hg hi he => absurd he (f2 g i hg hi))).mono ?_
        rintro e w3 ⟨⟨u, rfl⟩, hl3, hb3⟩
        go_wp2
        go_ret2
        have g1' : w.heap.size ≤ bw' := Nat.le_trans hz g1
        have g2' : w.heap.size ≤ bs' := Nat.le_trans hz g2
        have hbb : But [b, bw, bs] w w2 := ((But.of_below hb (Nat.le_refl _)).drewN nq).wide hb2 (by simp)
        exact ⟨rfl, bw', bs', hl3, hbb.wide hb3 (by simp; omega), .inr g1', .inr g2'⟩
      · have hput : M.put key (.string sv) (.string ⟨#[]⟩) = (false, 0, M.place key (.string sv)) := by unfold SM.put; rw [hfd]; simp only; rw [if_neg hfull, if_neg hroom]
        rw [hput]
        clear hput hfd
        go_enter Tryz.func11, Tryz.ntmps11
        go_wp2_with fail
        refine hfind.mono ?_
        rintro e w1 ⟨rfl, hb⟩
        have hl := h.below hb (Nat.le_refl _)
        obtain ⟨dw, ds, _, _, k2, _, k4, k5, _, _⟩ := hl.cells
        clear c0 c1 c2 c3 c4 c5
        have hi1 : ¬ 7 * (M.ws.length : Int) ≤ M.n + M.t := by omega
        have hi2 : ¬ 2000 ≤ (M.n : Int) := by omega
        go_wp2
        go_quiet (fail)
        go_wp2_with fail
        refine (rlay_any b bw bs M key sv (w1.drewN nq) (hl.drewN nq) hF hk hS.tombs).mono ?_
        rintro e w3 ⟨⟨u, rfl⟩, hl3, hb3⟩
        go_wp2
        go_ret2
        exact ⟨rfl, bw, bs, hl3, ((But.of_below hb (Nat.le_refl _)).drewN nq).trans hb3, .inl rfl, .inl rfl⟩
end Go.Proofs.YthlghokgknkpaaaGreatDoor

/-
  A map and the document's map side by side: what Put and Delete leave of them.
-/
namespace Go.Proofs.YthlghokgknkpaaaGreatDoor
open Go.RowKit Go.Shelf Go.Lib

/-- The map at b is Mx, the document's at c is My; both are the call's own and apart from each other. -/
def Duo7 (w wr : World) (b c : Nat) (Mx My : SM) : Prop :=
  (∃ bw bs cw cs, Lies 74 71 wr b bw bs Mx ∧ Lies 63 76 wr c cw cs My ∧ Apart6 w.heap.size b bw bs c cw cs) ∧ Mx.Inv IsV_s ∧ My.Inv IsV_s ∧ Below w.heap.size w wr
section
variable {w wr w' : World} {b c : Nat} {Mx My : SM}
theorem Duo7.bel (h : Duo7 w wr b c Mx My) : Below w.heap.size w wr := h.2.2.2
theorem Duo7.below (h : Duo7 w wr b c Mx My) (hb : Below wr.heap.size wr w') : Duo7 w w' b c Mx My := by
  obtain ⟨⟨bw, bs, cw, cs, h1, h2, h3⟩, h4, h5, h6⟩ := h
  exact ⟨⟨bw, bs, cw, cs, h1.below hb (Nat.le_refl _), h2.below hb (Nat.le_refl _), h3⟩, h4, h5, h6.trans (hb.mono h6.size)⟩
theorem Duo7.one {j : Nat} (h : Duo7 w wr b c Mx My) (hf : Fine j Mx) : One7 w wr b j Mx := by
  obtain ⟨⟨bw, bs, cw, cs, h1, h2, h3⟩, h4, h5, h6⟩ := h
  unfold Apart6 at h3
  exact ⟨⟨bw, bs, h1, by omega, by omega, by omega⟩, hf, h6⟩
theorem Duo7.rpairs (h : Duo7 w wr b c Mx My) : Calls Tryz.prog 14 #[.pointer (some ⟨c, 0, none⟩)] wr fun e w' => ∃ v, e = .returned v ∧ OwnsP w' wr.heap.size v My.img ∧ Below wr.heap.size wr w' := by
  obtain ⟨⟨bw, bs, cw, cs, h1, h2, h3⟩, h4, h5, h6⟩ := h
  exact rpairs_any c cw cs My wr h2 h5
set_option maxHeartbeats 1000000 in
theorem Duo7.putL (h : Duo7 w wr b c Mx My) (hT : Tab w) (p : ByteArray × ByteArray) (hk : p.1.size < 140737488355328) :
    Calls Tryz.prog 10 #[.pointer (some ⟨b, 0, none⟩), .string p.1, .string p.2] wr fun e w' => (∃ x y, e = .returned (.tuple #[.bool x, .int .i64 y])) ∧ Duo7 w w' b c (putP Mx p) My ∧ Kinds [74, 22, 71] wr w' := by
  obtain ⟨⟨bw, bs, cw, cs, h1, h2, h3⟩, h4, h5, h6⟩ := h
  obtain ⟨t3, _, _, _⟩ := inv_put h4 (key := p.1) (v := .string p.2) (z := .string ⟨#[]⟩) (isV_string _) (isV_string _) hk
  refine (put_any_s b bw bs Mx p.1 p.2 wr (hT.below h6 hT.1) h1 (sane_of_inv h4) hk).mono ?_
  rintro e w' ⟨rfl, bw', bs', g1, g2, g3, g4⟩
  have hl2 := h2.lt
  have := h6.size
  unfold Apart6 at h3
  refine ⟨⟨_, _, rfl⟩, ⟨⟨bw', bs', cw, cs, g1, h2.but g2 (by simp; omega) (by simp; omega) (by simp; omega), ?_⟩, t3, h5, h6.trans (g2.below (by simp; omega) h6.size)⟩, Kinds.of h1 g2⟩
  unfold Apart6
  omega
set_option maxHeartbeats 1000000 in
theorem Duo7.putR (h : Duo7 w wr b c Mx My) (p : ByteArray × ByteArray) (hw0 : 0 < w.heap.size) (hk : p.1.size < 140737488355328) :
    Calls Tryz.prog 11 #[.pointer (some ⟨c, 0, none⟩), .string p.1, .string p.2] wr fun e w' => (∃ x y, e = .returned (.tuple #[.bool x, .int .i64 y])) ∧ Duo7 w w' b c Mx (putP My p) ∧ Kinds [63, 22, 76] wr w' := by
  obtain ⟨⟨bw, bs, cw, cs, h1, h2, h3⟩, h4, h5, h6⟩ := h
  obtain ⟨t3, _, _, _⟩ := inv_put h5 (key := p.1) (v := .string p.2) (z := .string ⟨#[]⟩) (isV_string _) (isV_string _) hk
  refine (rput_any c cw cs My p.1 p.2 wr (by have := h6.size; omega) h2 (sane_of_inv h5) hk).mono ?_
  rintro e w' ⟨rfl, bw', bs', g1, g2, g3, g4⟩
  have hl1 := h1.lt
  have := h6.size
  unfold Apart6 at h3
  refine ⟨⟨_, _, rfl⟩, ⟨⟨bw, bs, bw', bs', h1.but g2 (by simp; omega) (by simp; omega) (by simp; omega), g1, ?_⟩, h4, t3, h6.trans (g2.below (by simp; omega) h6.size)⟩, Kinds.of h2 g2⟩
  unfold Apart6
  omega
theorem Duo7.delL (h : Duo7 w wr b c Mx My) (hT : Tab w) (key : ByteArray) (hk : key.size < 140737488355328) :
    Calls Tryz.prog 12 #[.pointer (some ⟨b, 0, none⟩), .string key] wr fun e w' => (∃ x, e = .returned (.bool x)) ∧ Duo7 w w' b c (delP Mx key) My ∧ Kinds [74, 22, 71] wr w' := by
  obtain ⟨⟨bw, bs, cw, cs, h1, h2, h3⟩, h4, h5, h6⟩ := h
  obtain ⟨t3, _⟩ := inv_del h4 (key := key) (z := .string ⟨#[]⟩) (isV_string _)
  refine (delete_any_s b bw bs Mx key wr (hT.below h6 hT.1) h1 (sane_of_inv h4) hk).mono ?_
  rintro e w' ⟨rfl, g1, g2⟩
  unfold Apart6 at h3
  exact ⟨⟨_, rfl⟩, ⟨⟨bw, bs, cw, cs, g1, h2.but g2 (by simp; omega) (by simp; omega) (by simp; omega), h3⟩, t3, h5, h6.trans (g2.below (by simp; omega) h6.size)⟩, Kinds.of h1 g2⟩
theorem Duo7.delR (h : Duo7 w wr b c Mx My) (key : ByteArray) (hk : key.size < 140737488355328) :
    Calls Tryz.prog 13 #[.pointer (some ⟨c, 0, none⟩), .string key] wr fun e w' => (∃ x, e = .returned (.bool x)) ∧ Duo7 w w' b c Mx (delP My key) ∧ Kinds [63, 22, 76] wr w' := by
  obtain ⟨⟨bw, bs, cw, cs, h1, h2, h3⟩, h4, h5, h6⟩ := h
  obtain ⟨t3, _⟩ := inv_del h5 (key := key) (z := .string ⟨#[]⟩) (isV_string _)
  refine (rdelete_any c cw cs My key wr h2 (sane_of_inv h5) hk).mono ?_
  rintro e w' ⟨rfl, g1, g2⟩
  unfold Apart6 at h3
  exact ⟨⟨_, rfl⟩, ⟨⟨bw, bs, cw, cs, h1.but g2 (by simp; omega) (by simp; omega) (by simp; omega), g1, h3⟩, h4, t3, h6.trans (g2.below (by simp; omega) h6.size)⟩, Kinds.of h2 g2⟩
end
theorem duo7_new {w W u1 u : World} {c1 cw1 cs1 b bw bs g : Nat} {k0 k1 : Int} (hB0 : Below w.heap.size w W)
    (hl1 : Lies 74 71 u1 c1 cw1 cs1 (SM.empty k0 k1 (.string ⟨#[]⟩) g)) (hz : isGood (g : Int) = true) (f1 : W.heap.size ≤ c1) (f2 : W.heap.size ≤ cw1) (f3 : W.heap.size ≤ cs1) (hb1 : Below W.heap.size W u1)
    (hl : Lies 63 76 u b bw bs (SM.empty k0 k1 (.string ⟨#[]⟩) g)) (g1 : u1.heap.size ≤ b) (g2 : u1.heap.size ≤ bw) (g3 : u1.heap.size ≤ bs) (hb : Below u1.heap.size u1 u) :
    Duo7 w u c1 b (SM.empty k0 k1 (.string ⟨#[]⟩) g) (SM.empty k0 k1 (.string ⟨#[]⟩) g) := by
  obtain ⟨i1, _⟩ := inv_empty k0 k1 (.string ⟨#[]⟩) g hz (isV_string _)
  have hlt := hl1.lt
  have e1 := hB0.size
  have e2 := hb1.size
  refine ⟨⟨cw1, cs1, bw, bs, hl1.below hb (Nat.le_refl _), hl, ?_⟩, i1, i1, (hB0.trans (hb1.mono e1)).trans (hb.mono (by omega))⟩
  unfold Apart6
  omega
/-- Two cells of the key's box, the Ask's box, and all that is old, as they were. -/
theorem keepT {w w1 w2 : World} {s : Nat} {x y : Value} {o : Obj} (hs : w.heap.size + 1 = s) (hb : Below w1.heap.size w1 w2) (h : w1.cell? ⟨w.heap.size, 0, none⟩ = some x ∧ w1.cell? ⟨w.heap.size, 1, none⟩ = some y ∧ Below w.heap.size w w1 ∧ w1.heap[s]? = some o) :
    w2.cell? ⟨w.heap.size, 0, none⟩ = some x ∧ w2.cell? ⟨w.heap.size, 1, none⟩ = some y ∧ Below w.heap.size w w2 ∧ w2.heap[s]? = some o := by
  obtain ⟨h0, h1, hw, hz⟩ := h
  have hl : s < w1.heap.size := (Array.getElem?_eq_some_iff.1 hz).1
  exact ⟨(hb.cell (p := ⟨w.heap.size, 0, none⟩) (by show w.heap.size < _; omega)).trans h0, (hb.cell (p := ⟨w.heap.size, 1, none⟩) (by show w.heap.size < _; omega)).trans h1, hw.trans (hb.mono hw.size), (hb.block s hl).trans hz⟩
theorem ask3 {w : World} {k : Nat} {f u : ByteArray} {n : Int} (hh : w.heap[k]? = some (.cells #[.string f, .string u, .int .i64 n] 27 (0, 0))) : w.cell? ⟨k, 0, none⟩ = some (.string f) ∧ w.cell? ⟨k, 1, none⟩ = some (.string u) ∧ w.cell? ⟨k, 2, none⟩ = some (.int .i64 n) := by
  refine ⟨?_, ?_, ?_⟩
  all_goals
    unfold World.cell?
    dsimp only
    rw [hh]
    rfl
theorem pair2 {w : World} {k : Nat} {f u : ByteArray} (hh : w.heap[k]? = some (.cells #[.string f, .string u] 35 (0, 0))) : w.cell? ⟨k, 0, none⟩ = some (.string f) ∧ w.cell? ⟨k, 1, none⟩ = some (.string u) := by
  refine ⟨?_, ?_⟩
  all_goals
    unfold World.cell?
    dsimp only
    rw [hh]
    rfl
end Go.Proofs.YthlghokgknkpaaaGreatDoor
