import Derived.Test.YtiobfdfmfgjpfaaDoorSwB2To
import Derived.Test.YtiobfdfmfgjpfaaDoorSwP2To
/-
  Contract: Map[string].rehash.
-/
namespace Go.Proofs.YtiobfdfmfgjpfaaDoor
open Go.RowKit Go.Shelf

theorem empty_at_s (k0 k1 : Int) {x : Int} (g : Nat) (hx : x = g) (hg : isGood (g : Int) = true) (w : World) (h0 : 0 < w.heap.size) :
    Calls Tryd.prog 29 #[.agg #[.int .u64 k0, .int .u64 k1], .int .i64 x] w fun e w' => ∃ b bw bs, e = .returned (.pointer (some ⟨b, 0, none⟩)) ∧
      Lies 81 77 w' b bw bs (SM.empty k0 k1 (.string ⟨#[]⟩) g) ∧ w.heap.size ≤ b ∧ w.heap.size ≤ bw ∧ w.heap.size ≤ bs ∧ Below w.heap.size w w' := by
  subst hx; exact empty_any_s k0 k1 g hg w h0

set_option maxRecDepth 100000 in
set_option maxHeartbeats 4000000 in
theorem rehash_any_s (b bw bs : Nat) (M : SM) (w : World) (hT : Tab w) (h : Lies 81 77 w b bw bs M) (hF : M.Fit) (hV : ∀ p, p < M.ss.length → ∃ x, (M.s p).2 = .string x) (hg : isGood (M.size' : Int) = true) :
    Calls Tryd.prog 35 #[.pointer (some ⟨b, 0, none⟩)] w fun e w' => (∃ u, e = .returned u) ∧ ∃ bw' bs', Lies 81 77 w' b bw' bs' (M.rehash (.string ⟨#[]⟩)) ∧ w.heap.size ≤ bw' ∧ w.heap.size ≤ bs' ∧ But [b] w w' := by
  obtain ⟨cw, cs, c0, c1, c2, c3, c4, c5, hcw, hcs⟩ := h.cells
  have hr := good_range hF.good
  have hlt := h.lt
  have hfew := hF.few
  have hw0 := hT.1
  refine (callsIn_wide (n := 9)).1 ?_
  refine callsIn_of_wp_marks Tryd.func35 rfl trivial ?_ rfl
  simp only [Tryd.ntmps35, List.size_toArray, List.length_cons, List.length_nil, Nat.reduceAdd, Nat.reduceSub, Array.replicate_succ, Array.replicate_zero, List.push_toArray, List.append_toArray, List.nil_append, List.cons_append]
  have q0 := Boxed.new w 26 (.pointer (some ⟨b, 0, none⟩))
  have hBq : Below w.heap.size w (w.alloc (.cells #[.pointer (some ⟨b, 0, none⟩)] 26)) := (Below.refl _ w).alloc (Nat.le_refl _) _
  have hzq : (w.alloc (.cells #[.pointer (some ⟨b, 0, none⟩)] 26)).heap.size = w.heap.size + 1 := by simp
  generalize hX0 : w.alloc (.cells #[.pointer (some ⟨b, 0, none⟩)] 26) = X0 at q0 hBq hzq
  have e0 := q0.cell
  have k0 := (hBq.cell (p := ⟨b, 0, none⟩) hlt.1).trans c0
  have k1 := (hBq.cell (p := ⟨b, 1, none⟩) hlt.1).trans c1
  have k2 := (hBq.cell (p := ⟨b, 2, none⟩) hlt.1).trans c2
  have k4 := (hBq.cell (p := ⟨b, 4, none⟩) hlt.1).trans c4
  have k5 := (hBq.cell (p := ⟨b, 5, none⟩) hlt.1).trans c5
  have hemp : Hid (∀ x : Int, x = (M.size' : Nat) → Calls Tryd.prog 29 #[.agg #[.int .u64 M.k0, .int .u64 M.k1], .int .i64 x] X0 fun e w' => ∃ b bw bs, e = .returned (.pointer (some ⟨b, 0, none⟩)) ∧
      Lies 81 77 w' b bw bs (SM.empty M.k0 M.k1 (.string ⟨#[]⟩) M.size') ∧ X0.heap.size ≤ b ∧ X0.heap.size ≤ bw ∧ X0.heap.size ≤ bs ∧ Below X0.heap.size X0 w') := fun x hx => empty_at_s M.k0 M.k1 M.size' hx hg X0 (by omega)
  have hmf : ∀ (fn : Fn) (first cap : Array Value) (w : World), (Instr.makeFunc fn first cap).run Tryd.prog w = .ok (.func fn first cap) w := fun _ _ _ _ => rfl
  have hTX : ∀ X, Below w.heap.size w X → Tab X := fun X hX => hT.below hX hw0
  have hcase : (M.t = 0 ∧ Hid ((M.ws.length : Int) * 2 = (M.size' : Nat))) ∨ (M.t ≠ 0 ∧ ¬ 2 * (M.n : Int) ≤ 7 * (M.ws.length : Int) ∧ Hid ((M.ws.length : Int) * 2 = (M.size' : Nat))) ∨ (M.t ≠ 0 ∧ 2 * (M.n : Int) ≤ 7 * (M.ws.length : Int) ∧ Hid ((M.ws.length : Int) = (M.size' : Nat))) := by
    by_cases ht : M.t = 0
    · refine .inl ⟨ht, ?_⟩
      show _ = _
      unfold SM.size'
      rw [if_pos (.inl ht)]
      omega
    · by_cases hd : 7 * M.ws.length < 2 * M.n
      · refine .inr (.inl ⟨ht, by omega, ?_⟩)
        show _ = _
        unfold SM.size'
        rw [if_pos (.inr hd)]
        omega
      · refine .inr (.inr ⟨ht, by omega, ?_⟩)
        show _ = _
        unfold SM.size'
        rw [if_neg (by omega)]
  rcases hcase with ⟨ht, hs⟩ | ⟨ht, hd, hs⟩ | ⟨ht, hd, hs⟩
  all_goals
    gi_wp2
    refine ⟨trivial, ?_⟩
    refine (callsIn_wide.2 (hemp.out _ hs.out)).mono ?_
    rintro e W1 ⟨b', bw', bs', rfl, hl', g1, g2, g3, hB1⟩
    have hz1 : w.heap.size + 1 ≤ W1.heap.size := by have := hB1.size; omega
    replace q0 : Boxed W1 _ _ _ := (hB1.block _ (by omega)).trans q0
    replace hB1 : Below w.heap.size w W1 := hBq.trans (hB1.mono (by omega))
    clear e0 k0 k1 k2 k4 k5 hX0 hBq hemp hs ht
    have hlt' := hl'.lt
    have q1 := Boxed.new W1 26 (.pointer (some ⟨b', 0, none⟩))
    replace q0 := q0.alloc (.cells #[.pointer (some ⟨b', 0, none⟩)] 26)
    replace hl' := hl'.below ((Below.refl W1.heap.size W1).alloc (Nat.le_refl _) (.cells #[.pointer (some ⟨b', 0, none⟩)] 26)) (Nat.le_refl _)
    have hB2 : Below w.heap.size w (W1.alloc (.cells #[.pointer (some ⟨b', 0, none⟩)] 26)) := hB1.alloc (by omega) _
    have hz2 : (W1.alloc (.cells #[.pointer (some ⟨b', 0, none⟩)] 26)).heap.size = W1.heap.size + 1 := by simp
    generalize hX2 : W1.alloc (.cells #[.pointer (some ⟨b', 0, none⟩)] 26) = X2 at q0 q1 hl' hB2 hz2
    have e0 := q0.cell
    gi_wp2
    generalize W1.heap.size = b2 at *
    refine range_seqV (m := 7) (gf := 46) (fb := #[.pointer (some ⟨b, 0, none⟩)]) (lb := #[]) rfl (enters_of Tryd.func46 (by kernel_rfl) rfl)
      (full_seq_s b bw bs w.heap.size M X2 (hTX _ hB2) (h.below hB2 (Nat.le_refl _)) hF hlt) (by omega) (fun _ => rfl)
      (fun B pre X => Boxed X w.heap.size 26 (.pointer (some ⟨b, 0, none⟩)) ∧ Boxed X b2 26 (.pointer (some ⟨b', 0, none⟩)) ∧ Lies 81 77 X b' bw' bs' (M.re (.string ⟨#[]⟩) pre) ∧ Below w.heap.size w X)
      (fun _ _ _ _ => False)
      ?hI ?hIx ?h0 ?ab ?done ?stop
    case hI =>
      rintro B pre X Y hB ⟨d0, d1, d2, d3⟩ ho
      exact ⟨ho.box d0 (.inl (by omega)), ho.box d1 (.inl (by omega)), d2.outside ho (by omega), d3.trans (ho.below (by omega) d3.size)⟩
    case hIx => exact fun _ _ _ _ _ _ h _ => h
    case h0 =>
      intro X hX _
      exact ⟨(hX.block _ (by omega)).trans q0, (hX.block _ (by omega)).trans q1, hl'.below hX (Nat.le_refl _), hB2.trans (hX.mono (by omega))⟩
    case stop => exact fun _ _ _ _ _ _ h _ => h.elim
    case ab =>
      apply Exists.intro
      constructor
      · intro l x X K hK
        have hsem := @Oper.semAt_some l
        gi_wp2
        exact hK
      · rintro l B pre p X hB hBX hpre ⟨d0, d1, d2, d3⟩
        have hsem := @Oper.semAt_some l
        have hpm : p ∈ M.full := hpre.subset (List.mem_append_right _ (List.mem_singleton.2 rfl))
        have hps := full_lt hF p hpm
        have hL := h.below d3 (Nat.le_refl _)
        obtain ⟨dw, ds, _, _, _, k3, _, _, _, hds⟩ := hL.cells
        have kk := hL.key p hps
        have kv := hL.val p hps
        obtain ⟨x, hx⟩ := hV p hps
        have hsz := hF.texts p hps
        have hre := re_fit hF hg (.string ⟨#[]⟩) pre (fun q hq => full_lt hF q (hpre.subset (List.mem_append_left _ hq))) (by have h1 := hpre.length_le; have h2 := full_len hF; rw [List.length_append] at h1; omega)
        have hsn : Hid (M.re (.string ⟨#[]⟩) (pre ++ [p]) = (M.re (.string ⟨#[]⟩) pre).place (M.s p).1 (.string x)) := by
          show _ = _
          rw [re_snoc, hx]
        rw [hx] at kv
        clear hx hpm
        generalize (M.s p).1 = key at *
        have hpl := fun m : Nat => place_any_s b' bw' bs' (M.re (.string ⟨#[]⟩) pre) key x (X.drewN m) ((hTX X d3)) (d2.drewN m) hre.1 hsz (fun g i hg hi he => absurd he (hre.2.1 g i hg hi))
        generalize M.re (.string ⟨#[]⟩) pre = Mp at *
        clear hre hpre
        have e0 := d0.cell
        have e1 := d1.cell
        have hp1 : (p : Int) < M.ss.length := by omega
        gi_wp2
        refine wpIn_round_last (by kernel_rfl) (by kernel_rfl) ?_
        dsimp only [initL, lastL]
        repeat (go_big_quiet_step (fail))
        refine wpQuiet_nil ?_
        rintro _ ⟨nq, rfl⟩
        gi_wp2_with (refine ⟨trivial, ?_⟩; gi_at_call 36; refine (CallsIn.inRound l (callsIn_wide.2 (hpl nq))).mono ?_; rintro e Y ⟨⟨u, rfl⟩, hY1, hY2⟩)
        have hk : ∀ A C, (∀ k ∈ [b', bw', bs'], k < A ∨ C ≤ k) → C ≤ X.heap.size → Keeps A C X Y := fun A C h1 h2 => by
          have := hY2.keeps h1 h2
          exact ⟨this.size, this.same⟩
        have hsm : ∀ k, k < X.heap.size → k ∉ [b', bw', bs'] → Y.heap[k]? = X.heap[k]? := fun k h1 h2 => hY2.block k h1 h2
        have hXs := d3.size
        refine ⟨hk _ _ (by simp; omega) (by omega), hk _ _ (by simp; omega) (by omega), (hsm _ (by omega) (by simp; omega)).trans d0, (hsm _ (by omega) (by simp; omega)).trans d1, ?_, ?_⟩
        · rw [hsn.out]
          exact hY1
        · have := hY2.below (B := w.heap.size) (by simp; omega) hXs
          exact d3.trans ⟨this.os, this.tape, this.output, this.size, this.block⟩
    case done =>
      rintro B X hB ⟨d0, d1, d2, d3⟩ hD
      have e0 := d0.cell
      have e1 := d1.cell
      obtain ⟨dw, ds, j0, j1, j2, j3, j4, j5, _, _⟩ := d2.cells
      have hL := h.below d3 (Nat.le_refl _)
      obtain ⟨_, _, i0, i1, i2, i3, i4, i5, _, _⟩ := hL.cells
      have fr := hL.free
      obtain ⟨o0, o1, o2, o3, o4, o5, hobj⟩ := hL.obj
      gi_wp2
      refine wpIn_wide_last (by kernel_rfl) (by kernel_rfl) ?_
      dsimp only [initL, lastL]
      repeat (go_big_quiet_step (fail))
      refine wpQuiet_nil ?_
      rintro _ ⟨nq, rfl⟩
      gi_wp2
      have hcp := (d2.drewN nq).copy (b := b) hobj (by omega) h.pos.1 j2 j3
      have hbt : But [b] w _ := (But.of_below (S := [b]) d3 (Nat.le_refl _)).drewN nq |>.set6 (b := b) (.inl (by simp)) (.int .u64 (M.re (.string ⟨#[]⟩) M.full).k0) (.int .u64 (M.re (.string ⟨#[]⟩) M.full).k1) (.slice (some ⟨bw', 0, none⟩) (M.re (.string ⟨#[]⟩) M.full).ws.length dw) (.slice (some ⟨bs', 0, none⟩) (M.re (.string ⟨#[]⟩) M.full).ss.length ds) (.int .i64 ((M.re (.string ⟨#[]⟩) M.full).n : Int)) (.int .i64 ((M.re (.string ⟨#[]⟩) M.full).t : Int))
      have hD' : (set6 (X.drewN nq) b (.int .u64 (M.re (.string ⟨#[]⟩) M.full).k0) (.int .u64 (M.re (.string ⟨#[]⟩) M.full).k1) (.slice (some ⟨bw', 0, none⟩) (M.re (.string ⟨#[]⟩) M.full).ws.length dw) (.slice (some ⟨bs', 0, none⟩) (M.re (.string ⟨#[]⟩) M.full).ss.length ds) (.int .i64 ((M.re (.string ⟨#[]⟩) M.full).n : Int)) (.int .i64 ((M.re (.string ⟨#[]⟩) M.full).t : Int))).heap[X2.heap.size]? = some (.deferred (some [])) :=
        (set6_other _ _ _ _ _ _ _ _ _ (by omega)).trans hD
      refine ⟨by simp, .inl ⟨_, _, rfl, run_takeDeferred hD', ?_⟩⟩
      refine ⟨_, results_none rfl _ _ _, ⟨_, rfl⟩, bw', bs', ?_, by omega, by omega, hbt.putObj (.inr (by omega)) _⟩
      rw [re_full]
      exact hcp.outside (Outside.putObj (B := 0) _ (Nat.le_refl _) hD' rfl) (by omega)
end Go.Proofs.YtiobfdfmfgjpfaaDoor

/-
  Contracts: Map[string].Put, Get, Len, Tombs.
-/
namespace Go.Proofs.YtiobfdfmfgjpfaaDoor
open Go.RowKit Go.Shelf

def IsV_s (v : Value) : Prop := ∃ x, v = .string x

set_option maxRecDepth 100000 in
set_option maxHeartbeats 4000000 in
theorem put_any_s (b bw bs : Nat) (M : SM) (key : ByteArray) (sv : ByteArray) (w : World) (hT : Tab w) (h : Lies 81 77 w b bw bs M) (hS : M.Sane IsV_s) (hk : key.size < 140737488355328) :
    Calls Tryd.prog 11 #[.pointer (some ⟨b, 0, none⟩), .string key, .string sv] w fun e w' => e = .returned (.tuple #[.bool (M.put key (.string sv) (.string ⟨#[]⟩)).1, .int .i64 ((M.put key (.string sv) (.string ⟨#[]⟩)).2.1 : Nat)]) ∧
      ∃ bw' bs', Lies 81 77 w' b bw' bs' (M.put key (.string sv) (.string ⟨#[]⟩)).2.2 ∧ But [b, bw, bs] w w' ∧ (bw' = bw ∨ w.heap.size ≤ bw') ∧ (bs' = bs ∨ w.heap.size ≤ bs') := by
  have hF := hS.fit
  have hr := good_range hF.good
  have hfew := hF.few
  have hlt := h.lt
  obtain ⟨cw, cs, c0, c1, c2, c3, c4, c5, hcw, hcs⟩ := h.cells
  have hpos : decide (0 < M.ws.length) = true := decide_eq_true (by omega)
  have hmade := made_any_s b _ _ _ w c2
  rw [hpos] at hmade
  have hfind := find_any_s b bw bs M key w hT h hF hk
  cases hfd : M.find key with
  | some p =>
    obtain ⟨hp1, _, _, _⟩ := find_some hF hfd
    have hput : M.put key (.string sv) (.string ⟨#[]⟩) = (true, 0, { M with ss := M.ss.set p ((M.s p).1, .string sv) }) := by unfold SM.put; rw [hfd]
    rw [hput]
    rw [hfd] at hfind
    clear hput hfd hpos
    go_enter Tryd.func11, Tryd.ntmps11
    go_wp2_with (go_at_call 33; refine hmade.mono ?_; rintro e w ⟨rfl, rfl⟩)
    refine hfind.mono ?_
    rintro e w1 ⟨rfl, hb⟩
    have hl := h.below hb (Nat.le_refl _)
    obtain ⟨dw, ds, _, _, _, k3, _, _, _, hds⟩ := hl.cells
    have kv := hl.val p hp1
    have fv := hl.freeS (p * 2 + 1)
    have hp2 : (p : Int) < M.ss.length := by omega
    have hp3 : (p : Int) ≠ -1 := by omega
    have hset := hl.setV p (.string sv) hp1
    clear c0 c1 c2 c3 c4 c5 hmade
    go_wp2
    go_ret2
    exact ⟨rfl, bw, bs, hset, (But.of_below hb (Nat.le_refl _)).setCell (p := ⟨bs, p * 2 + 1, none⟩) (.inl (by simp)) _, .inl rfl, .inl rfl⟩
  | none =>
    rw [hfd] at hfind
    by_cases hfull : 2000 ≤ M.n
    · have hput : M.put key (.string sv) (.string ⟨#[]⟩) = (false, 7, M) := by unfold SM.put; rw [hfd]; simp only; rw [if_pos hfull]
      rw [hput]
      clear hput hfd hpos
      go_enter Tryd.func11, Tryd.ntmps11
      go_wp2_with (go_at_call 33; refine hmade.mono ?_; rintro e w ⟨rfl, rfl⟩)
      refine hfind.mono ?_
      rintro e w1 ⟨rfl, hb⟩
      have hl := h.below hb (Nat.le_refl _)
      obtain ⟨dw, ds, _, _, _, _, k4, _, _, _⟩ := hl.cells
      clear c0 c1 c2 c3 c4 c5 hmade
      go_wp2
      go_ret2
      exact ⟨rfl, bw, bs, hl, But.of_below hb (Nat.le_refl _), .inl rfl, .inl rfl⟩
    · by_cases hroom : 7 * M.ws.length ≤ M.n + M.t
      · have hput : M.put key (.string sv) (.string ⟨#[]⟩) = (false, 0, (M.rehash (.string ⟨#[]⟩)).place key (.string sv)) := by unfold SM.put; rw [hfd]; simp only; rw [if_neg hfull, if_pos hroom]
        rw [hput]
        have hg := hS.room hroom (by omega)
        obtain ⟨f1, f2, f3⟩ := rehash_fit hF hg (.string ⟨#[]⟩)
        clear hput hfd hpos
        go_enter Tryd.func11, Tryd.ntmps11
        go_wp2_with (go_at_call 33; refine hmade.mono ?_; rintro e w ⟨rfl, rfl⟩)
        refine hfind.mono ?_
        rintro e w1 ⟨rfl, hb⟩
        have hl := h.below hb (Nat.le_refl _)
        have hT1 := hT.below hb hT.1
        obtain ⟨dw, ds, _, _, k2, _, k4, k5, _, _⟩ := hl.cells
        have hz := hb.size
        clear c0 c1 c2 c3 c4 c5 hmade
        have hi1 : 7 * (M.ws.length : Int) ≤ M.n + M.t := by omega
        have hi2 : ¬ 2000 ≤ (M.n : Int) := by omega
        go_wp2
        go_quiet (fail)
        go_wp2_with fail
        refine (rehash_any_s b bw bs M (w1.drewN nq) hT1 (hl.drewN nq) hF hS.typed hg).mono ?_
        rintro e w2 ⟨⟨u, rfl⟩, bw', bs', hl2, g1, g2, hb2⟩
        have hpp := h.pos
        have hT2 : Tab w2 := hb2.tab (X := w1.drewN nq) hT1 (by simp; omega)
        go_wp2_with fail
        refine (place_any_s b bw' bs' (M.rehash (.string ⟨#[]⟩)) key sv w2 hT2 hl2 f1 hk (fun g i hg hi he => absurd he (f2 g i hg hi))).mono ?_
        rintro e w3 ⟨⟨u, rfl⟩, hl3, hb3⟩
        go_wp2
        go_ret2
        have g1' : w.heap.size ≤ bw' := Nat.le_trans hz g1
        have g2' : w.heap.size ≤ bs' := Nat.le_trans hz g2
        have hbb : But [b, bw, bs] w w2 := ((But.of_below hb (Nat.le_refl _)).drewN nq).wide hb2 (by simp)
        exact ⟨rfl, bw', bs', hl3, hbb.wide hb3 (by simp; omega), .inr g1', .inr g2'⟩
      · have hput : M.put key (.string sv) (.string ⟨#[]⟩) = (false, 0, M.place key (.string sv)) := by unfold SM.put; rw [hfd]; simp only; rw [if_neg hfull, if_neg hroom]
        rw [hput]
        clear hput hfd hpos
        go_enter Tryd.func11, Tryd.ntmps11
        go_wp2_with (go_at_call 33; refine hmade.mono ?_; rintro e w ⟨rfl, rfl⟩)
        refine hfind.mono ?_
        rintro e w1 ⟨rfl, hb⟩
        have hl := h.below hb (Nat.le_refl _)
        have hT1 := hT.below hb hT.1
        obtain ⟨dw, ds, _, _, k2, _, k4, k5, _, _⟩ := hl.cells
        clear c0 c1 c2 c3 c4 c5 hmade
        have hi1 : ¬ 7 * (M.ws.length : Int) ≤ M.n + M.t := by omega
        have hi2 : ¬ 2000 ≤ (M.n : Int) := by omega
        go_wp2
        go_quiet (fail)
        go_wp2_with fail
        refine (place_any_s b bw bs M key sv (w1.drewN nq) hT1 (hl.drewN nq) hF hk hS.tombs).mono ?_
        rintro e w3 ⟨⟨u, rfl⟩, hl3, hb3⟩
        go_wp2
        go_ret2
        exact ⟨rfl, bw, bs, hl3, ((But.of_below hb (Nat.le_refl _)).drewN nq).trans hb3, .inl rfl, .inl rfl⟩
end Go.Proofs.YtiobfdfmfgjpfaaDoor

/-
  Contracts: Map[string].Len, Tombs, Delete.
-/
namespace Go.Proofs.YtiobfdfmfgjpfaaDoor
open Go.RowKit Go.Shelf

theorem len_any_s (b bw bs : Nat) (M : SM) (w : World) (h : Lies 81 77 w b bw bs M) (hF : M.Fit) :
    Calls Tryd.prog 32 #[.pointer (some ⟨b, 0, none⟩)] w fun e w' => e = .returned (.int .i64 (M.n : Nat)) ∧ w' = w := by
  have hr := good_range hF.good
  obtain ⟨cw, cs, c0, c1, c2, c3, c4, c5, hcw, hcs⟩ := h.cells
  have hmade := made_any_s b _ _ _ w c2
  rw [decide_eq_true (by omega : 0 < M.ws.length)] at hmade
  go_enter Tryd.func32, Tryd.ntmps32
  go_wp2_with (go_at_call 33; refine hmade.mono ?_; rintro e w ⟨rfl, rfl⟩)
  go_ret
  exact ⟨rfl, rfl⟩

set_option maxRecDepth 100000 in
set_option maxHeartbeats 4000000 in
theorem delete_any_s (b bw bs : Nat) (M : SM) (key : ByteArray) (w : World) (hT : Tab w) (h : Lies 81 77 w b bw bs M) (hS : M.Sane IsV_s) (hk : key.size < 140737488355328) :
    Calls Tryd.prog 15 #[.pointer (some ⟨b, 0, none⟩), .string key] w fun e w' => e = .returned (.bool (M.del key (.string ⟨#[]⟩)).1) ∧ Lies 81 77 w' b bw bs (M.del key (.string ⟨#[]⟩)).2 ∧ But [b, bw, bs] w w' := by
  have hF := hS.fit
  have hr := good_range hF.good
  have hfew := hF.few
  have hfind := find_any_s b bw bs M key w hT h hF hk
  cases hfd : M.find key with
  | none =>
    have hdel : M.del key (.string ⟨#[]⟩) = (false, M) := by unfold SM.del; rw [hfd]
    rw [hdel]
    rw [hfd] at hfind
    clear hfd hdel
    go_enter Tryd.func15, Tryd.ntmps15
    go_wp2_with fail
    refine hfind.mono ?_
    rintro e w1 ⟨rfl, hb⟩
    clear hfind
    go_wp2
    go_ret
    exact ⟨rfl, h.below hb (Nat.le_refl _), But.of_below hb (Nat.le_refl _)⟩
  | some p =>
    obtain ⟨hp1, hp2, hp3, hkey⟩ := find_some hF hfd
    clear hkey
    have hwl := M.what_lt key
    have hn1 : 1 ≤ M.n := hS.some (p / 8) (p % 8) hp2 (Nat.mod_lt _ (by decide)) (by omega)
    obtain ⟨g, i, rfl, hi⟩ : ∃ g i, p = 8 * g + i ∧ i < 8 := ⟨p / 8, p % 8, by omega, Nat.mod_lt _ (by decide)⟩
    have hdel : M.del key (.string ⟨#[]⟩) = (true, { M with ws := M.ws.set g (putN (M.w g) i (if hasE (M.w g) then 128 else 254)), ss := M.ss.set (8 * g + i) (ByteArray.empty, (.string ⟨#[]⟩)), n := M.n - 1, t := if hasE (M.w g) then M.t else M.t + 1 }) := by
      unfold SM.del; rw [hfd]; simp only
      rw [show (8 * g + i) / 8 = g by omega, show (8 * g + i) % 8 = i by omega]
    rw [hdel]
    rw [show (8 * g + i) / 8 = g by omega] at hp2
    rw [hfd] at hfind
    simp only [Int.natCast_add, Int.natCast_mul, Int.cast_ofNat_Int] at hfind
    have hE := hasE_match (M.w g)
    have hwd := hF.words g hp2
    clear hfd hdel hp3
    generalize hwd0 : M.w g = wd at *
    have h8 : (8 * (g : Int) + i) / 8 = g := by omega
    have h9 : (8 * (g : Int) + i) % 8 = i := by omega
    have hs8 := hF.slots
    have hi1 : 8 * (g : Int) + i < M.ss.length := by omega
    have hi0 : 8 * (g : Int) + i ≠ -1 := by omega
    have hi2 : ¬ (8 * (g : Int) + i) < 0 := by omega
    have hm2 := matchN_lt wd 128
    have hwd1 : Hid (M.w g = wd) := hwd0
    by_cases hem : matchN wd 128 = 0
    · have hE' : hasE wd = false := by rw [hE, decide_eq_true hem]; rfl
      clear hE
      simp only [hE', Bool.false_eq_true, if_false]
      clear hE'
      have hd254 : (254 : Nat) < 256 := by decide
      go_enter Tryd.func15, Tryd.ntmps15
      go_wp2_with fail
      refine hfind.mono ?_
      rintro e w1 ⟨rfl, hb⟩
      have hl := h.below hb (Nat.le_refl _)
      obtain ⟨dw, ds, _, _, k2, k3, k4, k5, hdw, hds⟩ := hl.cells
      have kw := hl.word g hp2
      rw [hwd0] at kw
      have f5 := hl.free 5
      have hbut : But [b, bw, bs] w w1 := But.of_below hb (Nat.le_refl _)
      clear hfind hs8 hwd0
      go_wp2_with (go_at_call 41; refine same_mono (empties_any wd _ hwd) ?_; rw [hem])
      have L1 := hl.setT (M.t + 1)
      rw [show ((M.t + 1 : Nat) : Int) = (M.t : Int) + 1 by omega] at L1
      replace hbut := hbut.setCell (p := ⟨b, 5, none⟩) (.inl (by simp)) (.int .i64 ((M.t : Int) + 1))
      clear k2 k3 k4 k5 f5 hl kw
      generalize w1.setCell ⟨b, 5, none⟩ (.int .i64 ((M.t : Int) + 1)) = w2 at *
      obtain ⟨M1, hM10⟩ : ∃ M1 : SM, M1 = { M with t := M.t + 1 } := ⟨_, rfl⟩
      have hM1 : M1.w g = wd := by rw [hM10]; exact hwd1.out
      have hM1n : M1.n = M.n := by rw [hM10]
      rw [← hM10] at L1
      have hp1' : 8 * g + i < M1.ss.length := by rw [hM10]; exact hp1
      have hp2' : g < M1.ws.length := by rw [hM10]; exact hp2
      obtain ⟨w1', s1', _, _, m2, m3, m4, m5, hw1, hs1⟩ := L1.cells
      have hne := L1.ne
      have fw := L1.freeW g
      have kw1 := L1.word g hp2'
      have hM1w : M1.w g = wd := hM1
      rw [hM1w] at kw1
      have ks1 := L1.key (8 * g + i) hp1'
      have ks2 := L1.val (8 * g + i) hp1'
      have fs1 := L1.freeS ((8 * g + i) * 2)
      have fs2 := L1.freeS ((8 * g + i) * 2 + 1)
      have fn1 := L1.free 4
      have hj1 : 8 * (g : Int) + i < M1.ss.length := by omega
      have hj2 : M1.n ≤ 1099511627776 := by rw [hM1n]; omega
      have hni : Hid (((M1.n - 1 : Nat) : Int) = (M1.n : Int) - 1) := by
        show _ = _
        rw [hM1n]; omega
      have HM10 : Hid (M1 = _) := hM10
      clear hM10 hM1 hM1n hM1w h8 h9 hi0 hi2
      refine wp_last (by kernel_rfl) (by kernel_rfl) ?_
      dsimp only [initL, lastL]
      repeat (go_big_quiet_step ((go_at_call 42; exact Calls.quiet_of (set_any wd (i : Int) i 254 (by omega) _ hwd (by omega)))))
      refine wpQuiet_nil ?_
      rintro _ ⟨nq, rfl⟩
      gi_wp2
      have L2 := (L1.drewN nq).setW g (putN wd i 254)
      have hbut2 := (hbut.drewN nq).setCell (p := ⟨bw, g, none⟩) (.inl (by simp)) (.int .u64 ((putN wd i 254 : Nat) : Int))
      generalize (w2.drewN nq).setCell ⟨bw, g, none⟩ (.int .u64 ((putN wd i 254 : Nat) : Int)) = w3 at *
      obtain ⟨w1'', s1'', _, _, n2, n3, n4, n5, _, _⟩ := L2.cells
      have ks1' := L2.key (8 * g + i) hp1'
      have ks2' := L2.val (8 * g + i) hp1'
      have fs1' := L2.freeS ((8 * g + i) * 2)
      have fs2' := L2.freeS ((8 * g + i) * 2 + 1)
      have fn1' := L2.free 4
      clear m2 m3 m4 m5 ks1 ks2 fs1 fs2 fn1 fw kw1 hw1 hs1 hbut
      go_wp2
      go_ret
      refine ⟨rfl, ?_, ?_⟩
      · have hfin := (L2.setS (8 * g + i) ByteArray.empty (.string ⟨#[]⟩)).setN (M1.n - 1)
        rw [hni.out] at hfin
        have hM10 := HM10.out
        subst hM10
        exact hfin
      · exact (((hbut2.setCell (p := ⟨bs, (8 * g + i) * 2, none⟩) (.inl (by simp)) _).setCell (p := ⟨bs, (8 * g + i) * 2 + 1, none⟩) (.inl (by simp)) _).setCell (p := ⟨b, 4, none⟩) (.inl (by simp)) _)
    · have hE' : hasE wd = true := by rw [hE, decide_eq_false hem]; rfl
      clear hE
      simp only [hE', if_true]
      clear hE'
      have hem' : (matchN wd 128 : Int) ≠ 0 := by omega
      go_enter Tryd.func15, Tryd.ntmps15
      go_wp2_with fail
      refine hfind.mono ?_
      rintro e w1 ⟨rfl, hb⟩
      have hl := h.below hb (Nat.le_refl _)
      obtain ⟨dw, ds, _, _, k2, k3, k4, k5, hdw, hds⟩ := hl.cells
      have kw := hl.word g hp2
      rw [hwd0] at kw
      have f5 := hl.free 5
      have hbut : But [b, bw, bs] w w1 := But.of_below hb (Nat.le_refl _)
      clear hfind hs8 hwd0
      go_wp2_with (go_at_call 41; refine same_mono (empties_any wd _ hwd) ?_)
      have L1 := hl
      clear k2 k3 k4 k5 f5 hl kw
      obtain ⟨M1, hM10⟩ : ∃ M1 : SM, M1 = M := ⟨_, rfl⟩
      have hM1 : M1.w g = wd := by rw [hM10]; exact hwd1.out
      have hM1n : M1.n = M.n := by rw [hM10]
      rw [← hM10] at L1
      have hp1' : 8 * g + i < M1.ss.length := by rw [hM10]; exact hp1
      have hp2' : g < M1.ws.length := by rw [hM10]; exact hp2
      obtain ⟨w1', s1', _, _, m2, m3, m4, m5, hw1, hs1⟩ := L1.cells
      have hne := L1.ne
      have fw := L1.freeW g
      have kw1 := L1.word g hp2'
      have hM1w : M1.w g = wd := hM1
      rw [hM1w] at kw1
      have ks1 := L1.key (8 * g + i) hp1'
      have ks2 := L1.val (8 * g + i) hp1'
      have fs1 := L1.freeS ((8 * g + i) * 2)
      have fs2 := L1.freeS ((8 * g + i) * 2 + 1)
      have fn1 := L1.free 4
      have hj1 : 8 * (g : Int) + i < M1.ss.length := by omega
      have hj2 : M1.n ≤ 1099511627776 := by rw [hM1n]; omega
      have hni : Hid (((M1.n - 1 : Nat) : Int) = (M1.n : Int) - 1) := by
        show _ = _
        rw [hM1n]; omega
      have HM10 : Hid (M1 = _) := hM10
      clear hM10 hM1 hM1n hM1w h8 h9 hi0 hi2
      refine wp_last (by kernel_rfl) (by kernel_rfl) ?_
      dsimp only [initL, lastL]
      repeat (go_big_quiet_step ((go_at_call 42; exact Calls.quiet_of (set_any wd (i : Int) i 128 (by omega) _ hwd (by omega)))))
      refine wpQuiet_nil ?_
      rintro _ ⟨nq, rfl⟩
      gi_wp2
      have L2 := (L1.drewN nq).setW g (putN wd i 128)
      have hbut2 := (hbut.drewN nq).setCell (p := ⟨bw, g, none⟩) (.inl (by simp)) (.int .u64 ((putN wd i 128 : Nat) : Int))
      generalize (w1.drewN nq).setCell ⟨bw, g, none⟩ (.int .u64 ((putN wd i 128 : Nat) : Int)) = w3 at *
      obtain ⟨w1'', s1'', _, _, n2, n3, n4, n5, _, _⟩ := L2.cells
      have ks1' := L2.key (8 * g + i) hp1'
      have ks2' := L2.val (8 * g + i) hp1'
      have fs1' := L2.freeS ((8 * g + i) * 2)
      have fs2' := L2.freeS ((8 * g + i) * 2 + 1)
      have fn1' := L2.free 4
      clear m2 m3 m4 m5 ks1 ks2 fs1 fs2 fn1 fw kw1 hw1 hs1 hbut
      go_wp2
      go_ret
      refine ⟨rfl, ?_, ?_⟩
      · have hfin := (L2.setS (8 * g + i) ByteArray.empty (.string ⟨#[]⟩)).setN (M1.n - 1)
        rw [hni.out] at hfin
        have hM10 := HM10.out
        subst hM10
        exact hfin
      · exact (((hbut2.setCell (p := ⟨bs, (8 * g + i) * 2, none⟩) (.inl (by simp)) _).setCell (p := ⟨bs, (8 * g + i) * 2 + 1, none⟩) (.inl (by simp)) _).setCell (p := ⟨b, 4, none⟩) (.inl (by simp)) _)
end Go.Proofs.YtiobfdfmfgjpfaaDoor
