import Derived.Test.YthlghokgknkpaaaDoorSwPTo
import Derived.Test.YthlghokgknkpaaaDoorSwFsTo
import Derived.Test.YthlghokgknkpaaaDoorSwQTo
/-
  A map's object copied over another's.
-/
namespace Go.Proofs.YthlghokgknkpaaaDoor
open Go.RowKit Go.Shelf

def set6 (w : World) (b : Nat) (a0 a1 a2 a3 a4 a5 : Value) : World :=
  (((((w.setCell ⟨b, 0, none⟩ a0).setCell ⟨b, 1, none⟩ a1).setCell ⟨b, 2, none⟩ a2).setCell ⟨b, 3, none⟩ a3).setCell ⟨b, 4, none⟩ a4).setCell ⟨b, 5, none⟩ a5

theorem set6_other (w : World) (b k : Nat) (a0 a1 a2 a3 a4 a5 : Value) (h : k ≠ b) : (set6 w b a0 a1 a2 a3 a4 a5).heap[k]? = w.heap[k]? := by
  unfold set6
  rw [Below.heap_setCell _ _ _ _ h, Below.heap_setCell _ _ _ _ h, Below.heap_setCell _ _ _ _ h, Below.heap_setCell _ _ _ _ h, Below.heap_setCell _ _ _ _ h, Below.heap_setCell _ _ _ _ h]
theorem set6_same {w : World} {b : Nat} {t : TypeId} {c0 c1 c2 c3 c4 c5 : Value} (a0 a1 a2 a3 a4 a5 : Value) (h : w.heap[b]? = some (.cells #[c0, c1, c2, c3, c4, c5] t (0, 0))) :
    (set6 w b a0 a1 a2 a3 a4 a5).heap[b]? = some (.cells #[a0, a1, a2, a3, a4, a5] t (0, 0)) := by
  unfold set6
  simp [World.setCell, Array.getElem?_modify, h]
theorem But.set6 {S : List Nat} {X Y : World} (h : But S X Y) {b : Nat} (hb : b ∈ S ∨ X.heap.size ≤ b) (a0 a1 a2 a3 a4 a5 : Value) : But S X (set6 Y b a0 a1 a2 a3 a4 a5) :=
  (((((h.setCell hb _).setCell hb _).setCell hb _).setCell hb _).setCell hb _).setCell hb _

theorem Lies.copy {tM tS : TypeId} {w : World} {b b' bw bs : Nat} {M : SM} (h : Lies tM tS w b' bw bs M) {c0 c1 c2 c3 c4 c5 : Value} (hb : w.heap[b]? = some (.cells #[c0, c1, c2, c3, c4, c5] tM (0, 0))) (hne : b ≠ bw ∧ b ≠ bs) (h0 : 0 < b) {cw cs : Nat}
    (e2 : w.cell? ⟨b', 2, none⟩ = some (.slice (some ⟨bw, 0, none⟩) M.ws.length cw)) (e3 : w.cell? ⟨b', 3, none⟩ = some (.slice (some ⟨bs, 0, none⟩) M.ss.length cs)) :
    Lies tM tS (set6 w b (.int .u64 M.k0) (.int .u64 M.k1) (.slice (some ⟨bw, 0, none⟩) M.ws.length cw) (.slice (some ⟨bs, 0, none⟩) M.ss.length cs) (.int .i64 (M.n : Int)) (.int .i64 (M.t : Int))) b bw bs M := by
  obtain ⟨cw', cs', r1, r2, r3⟩ := h.row
  have q2 : w.cell? ⟨b', 2, none⟩ = some (.slice (some ⟨bw, 0, none⟩) M.ws.length cw') := by simp [World.cell?, r1]
  have q3 : w.cell? ⟨b', 3, none⟩ = some (.slice (some ⟨bs, 0, none⟩) M.ss.length cs') := by simp [World.cell?, r1]
  rw [e2] at q2
  rw [e3] at q3
  simp only [Option.some.injEq, Value.slice.injEq, true_and] at q2 q3
  subst q2 q3
  refine ⟨⟨cw, cs, set6_same _ _ _ _ _ _ hb, ownsRow_block r2 (set6_other _ _ _ _ _ _ _ _ _ (Ne.symm hne.1)), ownsRow_block r3 (set6_other _ _ _ _ _ _ _ _ _ (Ne.symm hne.2))⟩, ⟨hne.1, hne.2, h.ne.2.2⟩, ⟨h0, h.pos.2⟩⟩
theorem Lies.obj {tM tS : TypeId} {w : World} {b bw bs : Nat} {M : SM} (h : Lies tM tS w b bw bs M) : ∃ c0 c1 c2 c3 c4 c5, w.heap[b]? = some (.cells #[c0, c1, c2, c3, c4, c5] tM (0, 0)) := by
  obtain ⟨cw', cs', r1, r2, r3⟩ := h.row
  exact ⟨_, _, _, _, _, _, r1⟩
end Go.Proofs.YthlghokgknkpaaaDoor

/-
  Contract: Map[string].rehash.
-/
namespace Go.Proofs.YthlghokgknkpaaaDoor
open Go.RowKit Go.Shelf

theorem empty_at_s (k0 k1 : Int) {x : Int} (g : Nat) (hx : x = g) (hg : isGood (g : Int) = true) (w : World) (h0 : 0 < w.heap.size) :
    Calls Tryd.prog 19 #[.agg #[.int .u64 k0, .int .u64 k1], .int .i64 x] w fun e w' => ∃ b bw bs, e = .returned (.pointer (some ⟨b, 0, none⟩)) ∧
      Lies 60 56 w' b bw bs (SM.empty k0 k1 (.string ⟨#[]⟩) g) ∧ w.heap.size ≤ b ∧ w.heap.size ≤ bw ∧ w.heap.size ≤ bs ∧ Below w.heap.size w w' := by
  subst hx; exact empty_any_s k0 k1 g hg w h0

set_option maxRecDepth 100000 in
set_option maxHeartbeats 4000000 in
theorem rehash_any_s (b bw bs : Nat) (M : SM) (w : World) (hT : Tab w) (h : Lies 60 56 w b bw bs M) (hF : M.Fit) (hV : ∀ p, p < M.ss.length → ∃ x, (M.s p).2 = .string x) (hg : isGood (M.size' : Int) = true) :
    Calls Tryd.prog 23 #[.pointer (some ⟨b, 0, none⟩)] w fun e w' => (∃ u, e = .returned u) ∧ ∃ bw' bs', Lies 60 56 w' b bw' bs' (M.rehash (.string ⟨#[]⟩)) ∧ w.heap.size ≤ bw' ∧ w.heap.size ≤ bs' ∧ But [b] w w' := by
  obtain ⟨cw, cs, c0, c1, c2, c3, c4, c5, hcw, hcs⟩ := h.cells
  have hr := good_range hF.good
  have hlt := h.lt
  have hfew := hF.few
  have hw0 := hT.1
  refine (callsIn_wide (n := 9)).1 ?_
  refine callsIn_of_wp_marks Tryd.func23 rfl trivial ?_ rfl
  simp only [Tryd.ntmps23, List.size_toArray, List.length_cons, List.length_nil, Nat.reduceAdd, Nat.reduceSub, Array.replicate_succ, Array.replicate_zero, List.push_toArray, List.append_toArray, List.nil_append, List.cons_append]
  have q0 := Boxed.new w 28 (.pointer (some ⟨b, 0, none⟩))
  have hBq : Below w.heap.size w (w.alloc (.cells #[.pointer (some ⟨b, 0, none⟩)] 28)) := (Below.refl _ w).alloc (Nat.le_refl _) _
  have hzq : (w.alloc (.cells #[.pointer (some ⟨b, 0, none⟩)] 28)).heap.size = w.heap.size + 1 := by simp
  generalize hX0 : w.alloc (.cells #[.pointer (some ⟨b, 0, none⟩)] 28) = X0 at q0 hBq hzq
  have e0 := q0.cell
  have k0 := (hBq.cell (p := ⟨b, 0, none⟩) hlt.1).trans c0
  have k1 := (hBq.cell (p := ⟨b, 1, none⟩) hlt.1).trans c1
  have k2 := (hBq.cell (p := ⟨b, 2, none⟩) hlt.1).trans c2
  have k4 := (hBq.cell (p := ⟨b, 4, none⟩) hlt.1).trans c4
  have k5 := (hBq.cell (p := ⟨b, 5, none⟩) hlt.1).trans c5
  have hemp : Hid (∀ x : Int, x = (M.size' : Nat) → Calls Tryd.prog 19 #[.agg #[.int .u64 M.k0, .int .u64 M.k1], .int .i64 x] X0 fun e w' => ∃ b bw bs, e = .returned (.pointer (some ⟨b, 0, none⟩)) ∧
      Lies 60 56 w' b bw bs (SM.empty M.k0 M.k1 (.string ⟨#[]⟩) M.size') ∧ X0.heap.size ≤ b ∧ X0.heap.size ≤ bw ∧ X0.heap.size ≤ bs ∧ Below X0.heap.size X0 w') := fun x hx => empty_at_s M.k0 M.k1 M.size' hx hg X0 (by omega)
  have hmf : ∀ (fn : Fn) (first cap : Array Value) (w : World), (Instr.makeFunc fn first cap).run Tryd.prog w = .ok (.func fn first cap) w := fun _ _ _ _ => rfl
  have hTX : ∀ X, Below w.heap.size w X → Tab X := fun X hX => hT.below hX hw0
  have hcase : (M.t = 0 ∧ Hid ((M.ws.length : Int) * 2 = (M.size' : Nat))) ∨ (M.t ≠ 0 ∧ ¬ 2 * (M.n : Int) ≤ 7 * (M.ws.length : Int) ∧ Hid ((M.ws.length : Int) * 2 = (M.size' : Nat))) ∨ (M.t ≠ 0 ∧ 2 * (M.n : Int) ≤ 7 * (M.ws.length : Int) ∧ Hid ((M.ws.length : Int) = (M.size' : Nat))) := by
    by_cases ht : M.t = 0
    · refine .inl ⟨ht, ?_⟩
      show _ = _
      unfold SM.size'
      rw [if_pos (.inl ht)]
      omega
    · by_cases hd : 7 * M.ws.length < 2 * M.n
      · refine .inr (.inl ⟨ht, by omega, ?_⟩)
        show _ = _
        unfold SM.size'
        rw [if_pos (.inr hd)]
        omega
      · refine .inr (.inr ⟨ht, by omega, ?_⟩)
        show _ = _
        unfold SM.size'
        rw [if_neg (by omega)]
  rcases hcase with ⟨ht, hs⟩ | ⟨ht, hd, hs⟩ | ⟨ht, hd, hs⟩
  all_goals
    gi_wp2
    refine ⟨trivial, ?_⟩
    refine (callsIn_wide.2 (hemp.out _ hs.out)).mono ?_
    rintro e W1 ⟨b', bw', bs', rfl, hl', g1, g2, g3, hB1⟩
    have hz1 : w.heap.size + 1 ≤ W1.heap.size := by have := hB1.size; omega
    replace q0 : Boxed W1 _ _ _ := (hB1.block _ (by omega)).trans q0
    replace hB1 : Below w.heap.size w W1 := hBq.trans (hB1.mono (by omega))
    clear e0 k0 k1 k2 k4 k5 hX0 hBq hemp hs ht
    have hlt' := hl'.lt
    have q1 := Boxed.new W1 28 (.pointer (some ⟨b', 0, none⟩))
    replace q0 := q0.alloc (.cells #[.pointer (some ⟨b', 0, none⟩)] 28)
    replace hl' := hl'.below ((Below.refl W1.heap.size W1).alloc (Nat.le_refl _) (.cells #[.pointer (some ⟨b', 0, none⟩)] 28)) (Nat.le_refl _)
    have hB2 : Below w.heap.size w (W1.alloc (.cells #[.pointer (some ⟨b', 0, none⟩)] 28)) := hB1.alloc (by omega) _
    have hz2 : (W1.alloc (.cells #[.pointer (some ⟨b', 0, none⟩)] 28)).heap.size = W1.heap.size + 1 := by simp
    generalize hX2 : W1.alloc (.cells #[.pointer (some ⟨b', 0, none⟩)] 28) = X2 at q0 q1 hl' hB2 hz2
    have e0 := q0.cell
    gi_wp2
    generalize W1.heap.size = b2 at *
    refine range_seqV (m := 7) (gf := 43) (fb := #[.pointer (some ⟨b, 0, none⟩)]) (lb := #[]) rfl (enters_of Tryd.func43 (by kernel_rfl) rfl)
      (full_seq_s b bw bs w.heap.size M X2 (hTX _ hB2) (h.below hB2 (Nat.le_refl _)) hF hlt) (by omega) (fun _ => rfl)
      (fun B pre X => Boxed X w.heap.size 28 (.pointer (some ⟨b, 0, none⟩)) ∧ Boxed X b2 28 (.pointer (some ⟨b', 0, none⟩)) ∧ Lies 60 56 X b' bw' bs' (M.re (.string ⟨#[]⟩) pre) ∧ Below w.heap.size w X)
      (fun _ _ _ _ => False)
      ?hI ?hIx ?h0 ?ab ?done ?stop
    case hI =>
      rintro B pre X Y hB ⟨d0, d1, d2, d3⟩ ho
      exact ⟨ho.box d0 (.inl (by omega)), ho.box d1 (.inl (by omega)), d2.outside ho (by omega), d3.trans (ho.below (by omega) d3.size)⟩
    case hIx => exact fun _ _ _ _ _ _ h _ => h
    case h0 =>
      intro X hX _
      exact ⟨(hX.block _ (by omega)).trans q0, (hX.block _ (by omega)).trans q1, hl'.below hX (Nat.le_refl _), hB2.trans (hX.mono (by omega))⟩
    case stop => exact fun _ _ _ _ _ _ h _ => h.elim
    case ab =>
      apply Exists.intro
      constructor
      · intro l x X K hK
        have hsem := @Oper.semAt_some l
        gi_wp2
        exact hK
      · rintro l B pre p X hB hBX hpre ⟨d0, d1, d2, d3⟩
        have hsem := @Oper.semAt_some l
        have hpm : p ∈ M.full := hpre.subset (List.mem_append_right _ (List.mem_singleton.2 rfl))
        have hps := full_lt hF p hpm
        have hL := h.below d3 (Nat.le_refl _)
        obtain ⟨dw, ds, _, _, _, k3, _, _, _, hds⟩ := hL.cells
        have kk := hL.key p hps
        have kv := hL.val p hps
        obtain ⟨x, hx⟩ := hV p hps
        have hsz := hF.texts p hps
        have hre := re_fit hF hg (.string ⟨#[]⟩) pre (fun q hq => full_lt hF q (hpre.subset (List.mem_append_left _ hq))) (by have h1 := hpre.length_le; have h2 := full_len hF; rw [List.length_append] at h1; omega)
        have hsn : Hid (M.re (.string ⟨#[]⟩) (pre ++ [p]) = (M.re (.string ⟨#[]⟩) pre).place (M.s p).1 (.string x)) := by
          show _ = _
          rw [re_snoc, hx]
        rw [hx] at kv
        clear hx hpm
        generalize (M.s p).1 = key at *
        have hpl := fun m : Nat => place_any_s b' bw' bs' (M.re (.string ⟨#[]⟩) pre) key x (X.drewN m) ((hTX X d3)) (d2.drewN m) hre.1 hsz (fun g i hg hi he => absurd he (hre.2.1 g i hg hi))
        generalize M.re (.string ⟨#[]⟩) pre = Mp at *
        clear hre hpre
        have e0 := d0.cell
        have e1 := d1.cell
        have hp1 : (p : Int) < M.ss.length := by omega
        gi_wp2
        refine wpIn_round_last (by kernel_rfl) (by kernel_rfl) ?_
        dsimp only [initL, lastL]
        repeat (go_big_quiet_step (fail))
        refine wpQuiet_nil ?_
        rintro _ ⟨nq, rfl⟩
        gi_wp2_with (refine ⟨trivial, ?_⟩; gi_at_call 24; refine (CallsIn.inRound l (callsIn_wide.2 (hpl nq))).mono ?_; rintro e Y ⟨⟨u, rfl⟩, hY1, hY2⟩)
        have hk : ∀ A C, (∀ k ∈ [b', bw', bs'], k < A ∨ C ≤ k) → C ≤ X.heap.size → Keeps A C X Y := fun A C h1 h2 => by
          have := hY2.keeps h1 h2
          exact ⟨this.size, this.same⟩
        have hsm : ∀ k, k < X.heap.size → k ∉ [b', bw', bs'] → Y.heap[k]? = X.heap[k]? := fun k h1 h2 => hY2.block k h1 h2
        have hXs := d3.size
        refine ⟨hk _ _ (by simp; omega) (by omega), hk _ _ (by simp; omega) (by omega), (hsm _ (by omega) (by simp; omega)).trans d0, (hsm _ (by omega) (by simp; omega)).trans d1, ?_, ?_⟩
        · rw [hsn.out]
          exact hY1
        · have := hY2.below (B := w.heap.size) (by simp; omega) hXs
          exact d3.trans ⟨this.os, this.tape, this.output, this.size, this.block⟩
    case done =>
      rintro B X hB ⟨d0, d1, d2, d3⟩ hD
      have e0 := d0.cell
      have e1 := d1.cell
      obtain ⟨dw, ds, j0, j1, j2, j3, j4, j5, _, _⟩ := d2.cells
      have hL := h.below d3 (Nat.le_refl _)
      obtain ⟨_, _, i0, i1, i2, i3, i4, i5, _, _⟩ := hL.cells
      have fr := hL.free
      obtain ⟨o0, o1, o2, o3, o4, o5, hobj⟩ := hL.obj
      gi_wp2
      refine wpIn_wide_last (by kernel_rfl) (by kernel_rfl) ?_
      dsimp only [initL, lastL]
      repeat (go_big_quiet_step (fail))
      refine wpQuiet_nil ?_
      rintro _ ⟨nq, rfl⟩
      gi_wp2
      have hcp := (d2.drewN nq).copy (b := b) hobj (by omega) h.pos.1 j2 j3
      have hbt : But [b] w _ := (But.of_below (S := [b]) d3 (Nat.le_refl _)).drewN nq |>.set6 (b := b) (.inl (by simp)) (.int .u64 (M.re (.string ⟨#[]⟩) M.full).k0) (.int .u64 (M.re (.string ⟨#[]⟩) M.full).k1) (.slice (some ⟨bw', 0, none⟩) (M.re (.string ⟨#[]⟩) M.full).ws.length dw) (.slice (some ⟨bs', 0, none⟩) (M.re (.string ⟨#[]⟩) M.full).ss.length ds) (.int .i64 ((M.re (.string ⟨#[]⟩) M.full).n : Int)) (.int .i64 ((M.re (.string ⟨#[]⟩) M.full).t : Int))
      have hD' : (set6 (X.drewN nq) b (.int .u64 (M.re (.string ⟨#[]⟩) M.full).k0) (.int .u64 (M.re (.string ⟨#[]⟩) M.full).k1) (.slice (some ⟨bw', 0, none⟩) (M.re (.string ⟨#[]⟩) M.full).ws.length dw) (.slice (some ⟨bs', 0, none⟩) (M.re (.string ⟨#[]⟩) M.full).ss.length ds) (.int .i64 ((M.re (.string ⟨#[]⟩) M.full).n : Int)) (.int .i64 ((M.re (.string ⟨#[]⟩) M.full).t : Int))).heap[X2.heap.size]? = some (.deferred (some [])) :=
        (set6_other _ _ _ _ _ _ _ _ _ (by omega)).trans hD
      refine ⟨by simp, .inl ⟨_, _, rfl, run_takeDeferred hD', ?_⟩⟩
      refine ⟨_, results_none rfl _ _ _, ⟨_, rfl⟩, bw', bs', ?_, by omega, by omega, hbt.putObj (.inr (by omega)) _⟩
      rw [re_full]
      exact hcp.outside (Outside.putObj (B := 0) _ (Nat.le_refl _) hD' rfl) (by omega)
end Go.Proofs.YthlghokgknkpaaaDoor

/-
  Contracts: Map[string].Put, Get, Len, Tombs.
-/
namespace Go.Proofs.YthlghokgknkpaaaDoor
open Go.RowKit Go.Shelf

def IsV_s (v : Value) : Prop := ∃ x, v = .string x

set_option maxRecDepth 100000 in
set_option maxHeartbeats 4000000 in
theorem put_any_s (b bw bs : Nat) (M : SM) (key : ByteArray) (sv : ByteArray) (w : World) (hT : Tab w) (h : Lies 60 56 w b bw bs M) (hS : M.Sane IsV_s) (hk : key.size < 140737488355328) :
    Calls Tryd.prog 9 #[.pointer (some ⟨b, 0, none⟩), .string key, .string sv] w fun e w' => e = .returned (.tuple #[.bool (M.put key (.string sv) (.string ⟨#[]⟩)).1, .int .i64 ((M.put key (.string sv) (.string ⟨#[]⟩)).2.1 : Nat)]) ∧
      ∃ bw' bs', Lies 60 56 w' b bw' bs' (M.put key (.string sv) (.string ⟨#[]⟩)).2.2 ∧ But [b, bw, bs] w w' ∧ (bw' = bw ∨ w.heap.size ≤ bw') ∧ (bs' = bs ∨ w.heap.size ≤ bs') := by
  have hF := hS.fit
  have hr := good_range hF.good
  have hfew := hF.few
  have hlt := h.lt
  obtain ⟨cw, cs, c0, c1, c2, c3, c4, c5, hcw, hcs⟩ := h.cells
  have hpos : decide (0 < M.ws.length) = true := decide_eq_true (by omega)
  have hmade := made_any_s b _ _ _ w c2
  rw [hpos] at hmade
  have hfind := find_any_s b bw bs M key w hT h hF hk
  cases hfd : M.find key with
  | some p =>
    obtain ⟨hp1, _, _, _⟩ := find_some hF hfd
    have hput : M.put key (.string sv) (.string ⟨#[]⟩) = (true, 0, { M with ss := M.ss.set p ((M.s p).1, .string sv) }) := by unfold SM.put; rw [hfd]
    rw [hput]
    rw [hfd] at hfind
    clear hput hfd hpos
    go_enter Tryd.func9, Tryd.ntmps9
    go_wp2_with (go_at_call 21; refine hmade.mono ?_; rintro e w ⟨rfl, rfl⟩)
    refine hfind.mono ?_
    rintro e w1 ⟨rfl, hb⟩
    have hl := h.below hb (Nat.le_refl _)
    obtain ⟨dw, ds, _, _, _, k3, _, _, _, hds⟩ := hl.cells
    have kv := hl.val p hp1
    have fv := hl.freeS (p * 2 + 1)
    have hp2 : (p : Int) < M.ss.length := by omega
    have hp3 : (p : Int) ≠ -1 := by omega
    have hset := hl.setV p (.string sv) hp1
    clear c0 c1 c2 c3 c4 c5 hmade
    go_wp2
    go_ret2
    exact ⟨rfl, bw, bs, hset, (But.of_below hb (Nat.le_refl _)).setCell (p := ⟨bs, p * 2 + 1, none⟩) (.inl (by simp)) _, .inl rfl, .inl rfl⟩
  | none =>
    rw [hfd] at hfind
    by_cases hfull : 2000 ≤ M.n
    · have hput : M.put key (.string sv) (.string ⟨#[]⟩) = (false, 7, M) := by unfold SM.put; rw [hfd]; simp only; rw [if_pos hfull]
      rw [hput]
      clear hput hfd hpos
      go_enter Tryd.func9, Tryd.ntmps9
      go_wp2_with (go_at_call 21; refine hmade.mono ?_; rintro e w ⟨rfl, rfl⟩)
      refine hfind.mono ?_
      rintro e w1 ⟨rfl, hb⟩
      have hl := h.below hb (Nat.le_refl _)
      obtain ⟨dw, ds, _, _, _, _, k4, _, _, _⟩ := hl.cells
      clear c0 c1 c2 c3 c4 c5 hmade
      go_wp2
      go_ret2
      exact ⟨rfl, bw, bs, hl, But.of_below hb (Nat.le_refl _), .inl rfl, .inl rfl⟩
    · by_cases hroom : 7 * M.ws.length ≤ M.n + M.t
      · have hput : M.put key (.string sv) (.string ⟨#[]⟩) = (false, 0, (M.rehash (.string ⟨#[]⟩)).place key (.string sv)) := by unfold SM.put; rw [hfd]; simp only; rw [if_neg hfull, if_pos hroom]
        rw [hput]
        have hg := hS.room hroom (by omega)
        obtain ⟨f1, f2, f3⟩ := rehash_fit hF hg (.string ⟨#[]⟩)
        clear hput hfd hpos
        go_enter Tryd.func9, Tryd.ntmps9
        go_wp2_with (go_at_call 21; refine hmade.mono ?_; rintro e w ⟨rfl, rfl⟩)
        refine hfind.mono ?_
        rintro e w1 ⟨rfl, hb⟩
        have hl := h.below hb (Nat.le_refl _)
        have hT1 := hT.below hb hT.1
        obtain ⟨dw, ds, _, _, k2, _, k4, k5, _, _⟩ := hl.cells
        have hz := hb.size
        clear c0 c1 c2 c3 c4 c5 hmade
        have hi1 : 7 * (M.ws.length : Int) ≤ M.n + M.t := by omega
        have hi2 : ¬ 2000 ≤ (M.n : Int) := by omega
        go_wp2
        go_quiet (fail)
        go_wp2_with fail
        refine (rehash_any_s b bw bs M (w1.drewN nq) hT1 (hl.drewN nq) hF hS.typed hg).mono ?_
        rintro e w2 ⟨⟨u, rfl⟩, bw', bs', hl2, g1, g2, hb2⟩
        have hpp := h.pos
        have hT2 : Tab w2 := hb2.tab (X := w1.drewN nq) hT1 (by simp; omega)
        go_wp2_with fail
        refine (place_any_s b bw' bs' (M.rehash (.string ⟨#[]⟩)) key sv w2 hT2 hl2 f1 hk (fun g i hg hi he => absurd he (f2 g i hg hi))).mono ?_
        rintro e w3 ⟨⟨u, rfl⟩, hl3, hb3⟩
        go_wp2
        go_ret2
        have g1' : w.heap.size ≤ bw' := Nat.le_trans hz g1
        have g2' : w.heap.size ≤ bs' := Nat.le_trans hz g2
        have hbb : But [b, bw, bs] w w2 := ((But.of_below hb (Nat.le_refl _)).drewN nq).wide hb2 (by simp)
        exact ⟨rfl, bw', bs', hl3, hbb.wide hb3 (by simp; omega), .inr g1', .inr g2'⟩
      · have hput : M.put key (.string sv) (.string ⟨#[]⟩) = (false, 0, M.place key (.string sv)) := by unfold SM.put; rw [hfd]; simp only; rw [if_neg hfull, if_neg hroom]
        rw [hput]
        clear hput hfd hpos
        go_enter Tryd.func9, Tryd.ntmps9
        go_wp2_with (go_at_call 21; refine hmade.mono ?_; rintro e w ⟨rfl, rfl⟩)
        refine hfind.mono ?_
        rintro e w1 ⟨rfl, hb⟩
        have hl := h.below hb (Nat.le_refl _)
        have hT1 := hT.below hb hT.1
        obtain ⟨dw, ds, _, _, k2, _, k4, k5, _, _⟩ := hl.cells
        clear c0 c1 c2 c3 c4 c5 hmade
        have hi1 : ¬ 7 * (M.ws.length : Int) ≤ M.n + M.t := by omega
        have hi2 : ¬ 2000 ≤ (M.n : Int) := by omega
        go_wp2
        go_quiet (fail)
        go_wp2_with fail
        refine (place_any_s b bw bs M key sv (w1.drewN nq) hT1 (hl.drewN nq) hF hk hS.tombs).mono ?_
        rintro e w3 ⟨⟨u, rfl⟩, hl3, hb3⟩
        go_wp2
        go_ret2
        exact ⟨rfl, bw, bs, hl3, ((But.of_below hb (Nat.le_refl _)).drewN nq).trans hb3, .inl rfl, .inl rfl⟩
end Go.Proofs.YthlghokgknkpaaaDoor
