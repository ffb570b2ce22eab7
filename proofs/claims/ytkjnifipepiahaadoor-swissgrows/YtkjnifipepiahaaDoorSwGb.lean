/-
  Contract: Map[bool].rehash.
-/
import Derived.Test.YtkjnifipepiahaaDoorSwFb
import Derived.Test.YtkjnifipepiahaaDoorSwP
import Derived.Test.YtkjnifipepiahaaDoorSwB2
namespace Go.Proofs.YtkjnifipepiahaaDoor
open Go.RowKit Go.Shelf

theorem empty_at_b (k0 k1 : Int) {x : Int} (g : Nat) (hx : x = g) (hg : isGood (g : Int) = true) (w : World) (h0 : 0 < w.heap.size) :
    Calls Tryd.prog 72 #[.agg #[.int .u64 k0, .int .u64 k1], .int .i64 x] w fun e w' => ∃ b bw bs, e = .returned (.pointer (some ⟨b, 0, none⟩)) ∧
      Lies 100 97 w' b bw bs (SM.empty k0 k1 (.bool false) g) ∧ w.heap.size ≤ b ∧ w.heap.size ≤ bw ∧ w.heap.size ≤ bs ∧ Below w.heap.size w w' := by
  subst hx; exact empty_any_b k0 k1 g hg w h0

set_option maxRecDepth 100000 in
set_option maxHeartbeats 4000000 in
theorem rehash_any_b (b bw bs : Nat) (M : SM) (w : World) (hT : Tab w) (h : Lies 100 97 w b bw bs M) (hF : M.Fit) (hV : ∀ p, p < M.ss.length → ∃ x, (M.s p).2 = .bool x) (hg : isGood (M.size' : Int) = true) :
    Calls Tryd.prog 75 #[.pointer (some ⟨b, 0, none⟩)] w fun e w' => (∃ u, e = .returned u) ∧ ∃ bw' bs', Lies 100 97 w' b bw' bs' (M.rehash (.bool false)) ∧ w.heap.size ≤ bw' ∧ w.heap.size ≤ bs' ∧ But [b] w w' := by
  obtain ⟨cw, cs, c0, c1, c2, c3, c4, c5, hcw, hcs⟩ := h.cells
  have hr := good_range hF.good
  have hlt := h.lt
  have hfew := hF.few
  have hw0 := hT.1
  refine (callsIn_wide (n := 9)).1 ?_
  refine callsIn_of_wp_marks Tryd.func75 rfl trivial ?_ rfl
  simp only [Tryd.ntmps75, List.size_toArray, List.length_cons, List.length_nil, Nat.reduceAdd, Nat.reduceSub, Array.replicate_succ, Array.replicate_zero, List.push_toArray, List.append_toArray, List.nil_append, List.cons_append]
  have q0 := Boxed.new w 67 (.pointer (some ⟨b, 0, none⟩))
  have hBq : Below w.heap.size w (w.alloc (.cells #[.pointer (some ⟨b, 0, none⟩)] 67)) := (Below.refl _ w).alloc (Nat.le_refl _) _
  have hzq : (w.alloc (.cells #[.pointer (some ⟨b, 0, none⟩)] 67)).heap.size = w.heap.size + 1 := by simp
  generalize hX0 : w.alloc (.cells #[.pointer (some ⟨b, 0, none⟩)] 67) = X0 at q0 hBq hzq
  have e0 := q0.cell
  have k0 := (hBq.cell (p := ⟨b, 0, none⟩) hlt.1).trans c0
  have k1 := (hBq.cell (p := ⟨b, 1, none⟩) hlt.1).trans c1
  have k2 := (hBq.cell (p := ⟨b, 2, none⟩) hlt.1).trans c2
  have k4 := (hBq.cell (p := ⟨b, 4, none⟩) hlt.1).trans c4
  have k5 := (hBq.cell (p := ⟨b, 5, none⟩) hlt.1).trans c5
  have hemp : Hid (∀ x : Int, x = (M.size' : Nat) → Calls Tryd.prog 72 #[.agg #[.int .u64 M.k0, .int .u64 M.k1], .int .i64 x] X0 fun e w' => ∃ b bw bs, e = .returned (.pointer (some ⟨b, 0, none⟩)) ∧
      Lies 100 97 w' b bw bs (SM.empty M.k0 M.k1 (.bool false) M.size') ∧ X0.heap.size ≤ b ∧ X0.heap.size ≤ bw ∧ X0.heap.size ≤ bs ∧ Below X0.heap.size X0 w') := fun x hx => empty_at_b M.k0 M.k1 M.size' hx hg X0 (by omega)
  have hmf : ∀ (fn : Fn) (first cap : Array Value) (w : World), (Instr.makeFunc fn first cap).run Tryd.prog w = .ok (.func fn first cap) w := fun _ _ _ _ => rfl
  have hTX : ∀ X, Below w.heap.size w X → Tab X := fun X hX => hT.below hX hw0
  have hcase : (M.t = 0 ∧ Hid ((M.ws.length : Int) * 2 = (M.size' : Nat))) ∨ (M.t ≠ 0 ∧ ¬ 2 * (M.n : Int) ≤ 7 * (M.ws.length : Int) ∧ Hid ((M.ws.length : Int) * 2 = (M.size' : Nat))) ∨ (M.t ≠ 0 ∧ 2 * (M.n : Int) ≤ 7 * (M.ws.length : Int) ∧ Hid ((M.ws.length : Int) = (M.size' : Nat))) := by
    by_cases ht : M.t = 0
    · refine .inl ⟨ht, ?_⟩
      show _ = _
      unfold SM.size'
      rw [if_pos (.inl ht)]
      omega
    · by_cases hd : 7 * M.ws.length < 2 * M.n
      · refine .inr (.inl ⟨ht, by omega, ?_⟩)
        show _ = _
        unfold SM.size'
        rw [if_pos (.inr hd)]
        omega
      · refine .inr (.inr ⟨ht, by omega, ?_⟩)
        show _ = _
        unfold SM.size'
        rw [if_neg (by omega)]
  rcases hcase with ⟨ht, hs⟩ | ⟨ht, hd, hs⟩ | ⟨ht, hd, hs⟩
  all_goals
    gi_wp2
    refine ⟨trivial, ?_⟩
    refine (callsIn_wide.2 (hemp.out _ hs.out)).mono ?_
    rintro e W1 ⟨b', bw', bs', rfl, hl', g1, g2, g3, hB1⟩
    have hz1 : w.heap.size + 1 ≤ W1.heap.size := by have := hB1.size; omega
    replace q0 : Boxed W1 _ _ _ := (hB1.block _ (by omega)).trans q0
    replace hB1 : Below w.heap.size w W1 := hBq.trans (hB1.mono (by omega))
    clear e0 k0 k1 k2 k4 k5 hX0 hBq hemp hs ht
    have hlt' := hl'.lt
    have q1 := Boxed.new W1 67 (.pointer (some ⟨b', 0, none⟩))
    replace q0 := q0.alloc (.cells #[.pointer (some ⟨b', 0, none⟩)] 67)
    replace hl' := hl'.below ((Below.refl W1.heap.size W1).alloc (Nat.le_refl _) (.cells #[.pointer (some ⟨b', 0, none⟩)] 67)) (Nat.le_refl _)
    have hB2 : Below w.heap.size w (W1.alloc (.cells #[.pointer (some ⟨b', 0, none⟩)] 67)) := hB1.alloc (by omega) _
    have hz2 : (W1.alloc (.cells #[.pointer (some ⟨b', 0, none⟩)] 67)).heap.size = W1.heap.size + 1 := by simp
    generalize hX2 : W1.alloc (.cells #[.pointer (some ⟨b', 0, none⟩)] 67) = X2 at q0 q1 hl' hB2 hz2
    have e0 := q0.cell
    gi_wp2
    generalize W1.heap.size = b2 at *
    refine range_seqV (m := 7) (gf := 77) (fb := #[.pointer (some ⟨b, 0, none⟩)]) (lb := #[]) rfl (enters_of Tryd.func77 (by kernel_rfl) rfl)
      (full_seq_b b bw bs w.heap.size M X2 (hTX _ hB2) (h.below hB2 (Nat.le_refl _)) hF hlt) (by omega) (fun _ => rfl)
      (fun B pre X => Boxed X w.heap.size 67 (.pointer (some ⟨b, 0, none⟩)) ∧ Boxed X b2 67 (.pointer (some ⟨b', 0, none⟩)) ∧ Lies 100 97 X b' bw' bs' (M.re (.bool false) pre) ∧ Below w.heap.size w X)
      (fun _ _ _ _ => False)
      ?hI ?hIx ?h0 ?ab ?done ?stop
    case hI =>
      rintro B pre X Y hB ⟨d0, d1, d2, d3⟩ ho
      exact ⟨ho.box d0 (.inl (by omega)), ho.box d1 (.inl (by omega)), d2.outside ho (by omega), d3.trans (ho.below (by omega) d3.size)⟩
    case hIx => exact fun _ _ _ _ _ _ h _ => h
    case h0 =>
      intro X hX _
      exact ⟨(hX.block _ (by omega)).trans q0, (hX.block _ (by omega)).trans q1, hl'.below hX (Nat.le_refl _), hB2.trans (hX.mono (by omega))⟩
    case stop => exact fun _ _ _ _ _ _ h _ => h.elim
    case ab =>
      apply Exists.intro
      constructor
      · intro l x X K hK
        have hsem := @Oper.semAt_some l
        gi_wp2
        exact hK
      · rintro l B pre p X hB hBX hpre ⟨d0, d1, d2, d3⟩
        have hsem := @Oper.semAt_some l
        have hpm : p ∈ M.full := hpre.subset (List.mem_append_right _ (List.mem_singleton.2 rfl))
        have hps := full_lt hF p hpm
        have hL := h.below d3 (Nat.le_refl _)
        obtain ⟨dw, ds, _, _, _, k3, _, _, _, hds⟩ := hL.cells
        have kk := hL.key p hps
        have kv := hL.val p hps
        obtain ⟨x, hx⟩ := hV p hps
        have hsz := hF.texts p hps
        have hre := re_fit hF hg (.bool false) pre (fun q hq => full_lt hF q (hpre.subset (List.mem_append_left _ hq))) (by have h1 := hpre.length_le; have h2 := full_len hF; rw [List.length_append] at h1; omega)
        have hsn : Hid (M.re (.bool false) (pre ++ [p]) = (M.re (.bool false) pre).place (M.s p).1 (.bool x)) := by
          show _ = _
          rw [re_snoc, hx]
        rw [hx] at kv
        clear hx hpm
        generalize (M.s p).1 = key at *
        have hpl := fun m : Nat => place_any_b b' bw' bs' (M.re (.bool false) pre) key x (X.drewN m) ((hTX X d3)) (d2.drewN m) hre.1 hsz (fun g i hg hi he => absurd he (hre.2.1 g i hg hi))
        generalize M.re (.bool false) pre = Mp at *
        clear hre hpre
        have e0 := d0.cell
        have e1 := d1.cell
        have hp1 : (p : Int) < M.ss.length := by omega
        gi_wp2
        refine wpIn_round_last (by kernel_rfl) (by kernel_rfl) ?_
        dsimp only [initL, lastL]
        repeat (go_big_quiet_step (fail))
        refine wpQuiet_nil ?_
        rintro _ ⟨nq, rfl⟩
        gi_wp2_with (refine ⟨trivial, ?_⟩; gi_at_call 76; refine (CallsIn.inRound l (callsIn_wide.2 (hpl nq))).mono ?_; rintro e Y ⟨⟨u, rfl⟩, hY1, hY2⟩)
        have hk : ∀ A C, (∀ k ∈ [b', bw', bs'], k < A ∨ C ≤ k) → C ≤ X.heap.size → Keeps A C X Y := fun A C h1 h2 => by
          have := hY2.keeps h1 h2
          exact ⟨this.size, this.same⟩
        have hsm : ∀ k, k < X.heap.size → k ∉ [b', bw', bs'] → Y.heap[k]? = X.heap[k]? := fun k h1 h2 => hY2.block k h1 h2
        have hXs := d3.size
        refine ⟨hk _ _ (by simp; omega) (by omega), hk _ _ (by simp; omega) (by omega), (hsm _ (by omega) (by simp; omega)).trans d0, (hsm _ (by omega) (by simp; omega)).trans d1, ?_, ?_⟩
        · rw [hsn.out]
          exact hY1
        · have := hY2.below (B := w.heap.size) (by simp; omega) hXs
          exact d3.trans ⟨this.os, this.tape, this.output, this.size, this.block⟩
    case done =>
      rintro B X hB ⟨d0, d1, d2, d3⟩ hD
      have e0 := d0.cell
      have e1 := d1.cell
      obtain ⟨dw, ds, j0, j1, j2, j3, j4, j5, _, _⟩ := d2.cells
      have hL := h.below d3 (Nat.le_refl _)
      obtain ⟨_, _, i0, i1, i2, i3, i4, i5, _, _⟩ := hL.cells
      have fr := hL.free
      obtain ⟨o0, o1, o2, o3, o4, o5, hobj⟩ := hL.obj
      gi_wp2
      refine wpIn_wide_last (by kernel_rfl) (by kernel_rfl) ?_
      dsimp only [initL, lastL]
      repeat (go_big_quiet_step (fail))
      refine wpQuiet_nil ?_
      rintro _ ⟨nq, rfl⟩
      gi_wp2
      have hcp := (d2.drewN nq).copy (b := b) hobj (by omega) h.pos.1 j2 j3
      have hbt : But [b] w _ := (But.of_below (S := [b]) d3 (Nat.le_refl _)).drewN nq |>.set6 (b := b) (.inl (by simp)) (.int .u64 (M.re (.bool false) M.full).k0) (.int .u64 (M.re (.bool false) M.full).k1) (.slice (some ⟨bw', 0, none⟩) (M.re (.bool false) M.full).ws.length dw) (.slice (some ⟨bs', 0, none⟩) (M.re (.bool false) M.full).ss.length ds) (.int .i64 ((M.re (.bool false) M.full).n : Int)) (.int .i64 ((M.re (.bool false) M.full).t : Int))
      have hD' : (set6 (X.drewN nq) b (.int .u64 (M.re (.bool false) M.full).k0) (.int .u64 (M.re (.bool false) M.full).k1) (.slice (some ⟨bw', 0, none⟩) (M.re (.bool false) M.full).ws.length dw) (.slice (some ⟨bs', 0, none⟩) (M.re (.bool false) M.full).ss.length ds) (.int .i64 ((M.re (.bool false) M.full).n : Int)) (.int .i64 ((M.re (.bool false) M.full).t : Int))).heap[X2.heap.size]? = some (.deferred (some [])) :=
        (set6_other _ _ _ _ _ _ _ _ _ (by omega)).trans hD
      refine ⟨by simp, .inl ⟨_, _, rfl, run_takeDeferred hD', ?_⟩⟩
      refine ⟨_, results_none rfl _ _ _, ⟨_, rfl⟩, bw', bs', ?_, by omega, by omega, hbt.putObj (.inr (by omega)) _⟩
      rw [re_full]
      exact hcp.outside (Outside.putObj (B := 0) _ (Nat.le_refl _) hD' rfl) (by omega)
end Go.Proofs.YtkjnifipepiahaaDoor
