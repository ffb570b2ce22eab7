import Derived.Test.YthlghokgknkpaaaDoorRlTo
import Derived.Deep.OwnRows
import Derived.Deep.RegionWith
import Derived.Laws.MakeOwn
/-
  Contract: Map[string].place.
-/
namespace Go.Proofs.YthlghokgknkpaaaDoor
open Go.RowKit Go.Shelf

set_option maxRecDepth 100000 in
set_option maxHeartbeats 4000000 in
theorem place_any_s (b bw bs : Nat) (M : SM) (key : ByteArray) (sv : ByteArray) (w : World) (hT : Tab w) (h : Lies 60 56 w b bw bs M) (hF : M.Fit) (hk : key.size < 140737488355328)
    (ht : ∀ g i, g < M.ws.length → i < 8 → byteN (M.w g) i = 254 → 1 ≤ M.t) :
    Calls Tryd.prog 24 #[.pointer (some ⟨b, 0, none⟩), .string key, .string sv] w fun e w' => (∃ u, e = .returned u) ∧ Lies 60 56 w' b bw bs (M.place key (.string sv)) ∧ But [b, bw, bs] w w' := by
  obtain ⟨cw, cs, c0, c1, c2, c3, c4, c5, hcw, hcs⟩ := h.cells
  have hr := good_range hF.good
  have hlt := h.lt
  have hfew := hF.few
  obtain ⟨H, hH0, hH1, hgs, hhash⟩ := hash_at_s b bw bs M key hF hk
  refine (callsIn_wide (n := 9)).1 ?_
  refine callsIn_of_wp_marks Tryd.func24 rfl trivial ?_ rfl
  simp only [Tryd.ntmps24, List.size_toArray, List.length_cons, List.length_nil, Nat.reduceAdd, Nat.reduceSub, Array.replicate_succ, Array.replicate_zero, List.push_toArray, List.append_toArray, List.nil_append, List.cons_append]
  obtain ⟨hBq, hzq, q0, q1, q2⟩ := three_boxes w (.pointer (some ⟨b, 0, none⟩)) (.string key) (.string sv) 28 9 9
  generalize hX0 : ((w.alloc (.cells #[.pointer (some ⟨b, 0, none⟩)] 28)).alloc (.cells #[.string key] 9)).alloc (.cells #[.string sv] 9) = X0 at q0 q1 q2 hBq hzq
  have e0 := q0.cell
  have e1 := q1.cell
  gi_wp2
  refine ⟨trivial, ?_⟩
  refine (callsIn_wide.2 (hhash _ (h.below hBq (Nat.le_refl _)))).mono ?_
  rintro e W1 ⟨rfl, hB1⟩
  replace q0 : Boxed W1 _ _ _ := (hB1.block _ (by omega)).trans q0
  replace q1 : Boxed W1 _ _ _ := (hB1.block _ (by omega)).trans q1
  replace q2 : Boxed W1 _ _ _ := (hB1.block _ (by omega)).trans q2
  have hz1 : w.heap.size + 3 ≤ W1.heap.size := by have := hB1.size; omega
  replace hB1 : Below w.heap.size w W1 := hBq.trans (hB1.mono (by omega))
  clear e0 e1 hBq hzq hX0 hhash X0
  have q3 := Boxed.new W1 5 (.int .u8 (M.what key : Nat))
  replace q0 := q0.alloc (.cells #[.int .u8 (M.what key : Nat)] 5)
  replace q1 := q1.alloc (.cells #[.int .u8 (M.what key : Nat)] 5)
  replace q2 := q2.alloc (.cells #[.int .u8 (M.what key : Nat)] 5)
  have hB2 : Below w.heap.size w (W1.alloc (.cells #[.int .u8 (M.what key : Nat)] 5)) := hB1.alloc (by omega) _
  have hz2 : (W1.alloc (.cells #[.int .u8 (M.what key : Nat)] 5)).heap.size = W1.heap.size + 1 := by simp
  generalize hX2 : W1.alloc (.cells #[.int .u8 (M.what key : Nat)] 5) = X2 at q0 q1 q2 q3 hB2 hz2
  have e0 := q0.cell
  have k2 := (hB2.cell (p := ⟨b, 2, none⟩) hlt.1).trans c2
  gi_wp2_with (refine ⟨trivial, ?_⟩; gi_at_call 38; refine (callsIn_wide.2 (seq_any H (M.ws.length : Int) _ (by omega) (by omega))).mono ?_; rw [hz2]; rintro e W5 ⟨rfl, hB5, hz5, s0, s1, s2⟩)
  generalize W1.heap.size = b2 at *
  replace q0 : Boxed W5 _ _ _ := (hB5.block _ (by omega)).trans q0
  replace q1 : Boxed W5 _ _ _ := (hB5.block _ (by omega)).trans q1
  replace q2 : Boxed W5 _ _ _ := (hB5.block _ (by omega)).trans q2
  replace q3 : Boxed W5 _ _ _ := (hB5.block _ (by omega)).trans q3
  replace hB2 := hB2.trans (hB5.mono (by omega))
  clear hB5 e0 k2 hz2 hX2 hB1 X2
  refine range_seqV (m := 7) (gf := 59) (fb := #[]) (lb := #[.pointer (some ⟨b2 + 1 + 2, 0, none⟩), .pointer (some ⟨b2 + 1, 0, none⟩), .pointer (some ⟨b2 + 1 + 1, 0, none⟩)]) rfl (enters_of Tryd.func59 (by kernel_rfl) rfl)
    (seq1_seq (b2 + 1) H (M.ws.length : Int) hH0 hH1 (by omega) (by omega) W5 (by omega) s0 s1 s2).seqV (by omega) (fun _ => rfl)
    (fun B pre X => Boxed X w.heap.size 28 (.pointer (some ⟨b, 0, none⟩)) ∧ Boxed X (w.heap.size + 1) 9 (.string key) ∧ Boxed X (w.heap.size + 2) 9 (.string sv) ∧ Boxed X b2 5 (.int .u8 (M.what key : Nat)) ∧ Below w.heap.size w X ∧
      ∀ rest, (M.gs key).map (fun g : Nat => (g : Int)) = pre ++ rest → M.spot (M.gs key) = M.spot (rest.map Int.toNat))
    (fun B c pre X => c = .ret ∧ Lies 60 56 X b bw bs (M.place key (.string sv)) ∧ But [b, bw, bs] w X)
    ?hI ?hIx ?h0 ?ab ?done ?stop
  case hI =>
    rintro B pre X Y hB ⟨d0, d1, d2, d3, d4, d5⟩ ho
    exact ⟨ho.box d0 (.inl (by omega)), ho.box d1 (.inl (by omega)), ho.box d2 (.inl (by omega)), ho.box d3 (.inl (by omega)), d4.trans (ho.below (by omega) d4.size), d5⟩
  case hIx =>
    rintro B c pre X Y hB ⟨rfl, d1, d2⟩ ho
    have hX := d2.size
    exact ⟨rfl, d1.outside ho (by omega), d2.outside ho (by omega)⟩
  case h0 =>
    intro X hX _
    refine ⟨(hX.block _ (by omega)).trans q0, (hX.block _ (by omega)).trans q1, (hX.block _ (by omega)).trans q2, (hX.block _ (by omega)).trans q3, hB2.trans (hX.mono (by omega)), fun rest hrest => ?_⟩
    rw [List.nil_append] at hrest
    rw [← hrest, List.map_map]
    congr 1
    exact (List.map_id _).symm
  case ab =>
    apply Exists.intro
    constructor
    · intro l x X K hK
      have hsem := @Oper.semAt_some l
      gi_wp2
      exact hK
    · rintro l B pre x X hB hBX hpre ⟨d0, d1, d2, d3, d4, d5⟩
      have hsem := @Oper.semAt_some l
      rw [hgs] at hpre
      obtain ⟨gx, hgx, rfl⟩ := List.mem_map.1 (hpre.subset (List.mem_append_right _ (List.mem_singleton.2 rfl)))
      have hgl := SM.gs_lt hF key gx hgx
      obtain ⟨rest, hrest⟩ := hpre
      have hfind : Hid (M.spot (M.gs key) = M.spot (gx :: rest.map Int.toNat)) := by
        have := d5 ((gx : Int) :: rest) (by rw [← hrest]; simp)
        rw [List.map_cons, Int.toNat_natCast] at this
        exact this
      have hd6 : Hid (∀ rest' : List Int, (M.gs key).map (fun g : Nat => (g : Int)) = (pre ++ [(gx : Int)]) ++ rest' → rest' = rest) := fun rest' he => by
        rw [← hrest] at he
        exact (List.append_cancel_left he).symm
      clear hrest d5
      have hL := h.below d4 (Nat.le_refl _)
      have hTX : Tab X := hT.below d4 (by have := hT.1; omega)
      obtain ⟨dw, ds, _, _, k2, k3, k4, k5, hdw, hds⟩ := hL.cells
      have kw := hL.word gx hgl
      have hwl := hF.words gx hgl
      have hwhat := M.what_lt key
      have ht' := ht gx
      have e0 := d0.cell
      generalize hwd0 : M.w gx = wd at *
      have hwd : Hid (M.w gx = wd) := hwd0
      clear hwd0
      by_cases hfr : freeN wd = 0
      · have hnone := free_none hfr
        gi_wp2_with (refine ⟨trivial, ?_⟩; gi_at_call 44; refine (CallsIn.inRound l (callsIn_wide.2 (free_any wd _ hwl))).mono ?_; rintro e X ⟨rfl, rfl⟩; rw [hfr])
        refine ⟨Keeps.refl _ _ _, Keeps.refl _ _ _, d0, d1, d2, d3, d4, fun rest' he => ?_⟩
        rw [hd6.out rest' he, hfind.out, SM.spot, hwd.out, hnone]
      · obtain ⟨hsome, hf8⟩ := free_some hfr
        have hfl := freeN_lt wd
        have hfr' : (freeN wd : Int) ≠ 0 := by omega
        have hpl : Hid (M.place key (.string sv) = M.lay key (.string sv) gx (firstN (freeN wd))) := by
          show M.place key (.string sv) = _
          unfold SM.place
          rw [hfind.out, SM.spot, hwd.out, hsome]
        have hfirst := first_any (freeN wd) X hTX hfl
        clear hsome hfr
        gi_wp2_with (refine ⟨trivial, ?_⟩; gi_at_call 44; refine (CallsIn.inRound l (callsIn_wide.2 (free_any wd _ hwl))).mono ?_; rintro e X ⟨rfl, rfl⟩)
        refine ⟨trivial, ?_⟩
        refine (CallsIn.inRound l (callsIn_wide.2 hfirst)).mono ?_
        rintro e X ⟨rfl, rfl⟩
        generalize firstN (freeN wd) = f at *
        have hbyte := byteN_lt wd f
        have hne := hL.ne
        have hdel : byteN wd f = 254 → 1 ≤ M.t := ht' f hgl hf8
        clear hfirst ht' hgx hd6 hfind
        obtain ⟨M1, hM1⟩ : ∃ M1 : SM, M1 = { M with t := if byteN wd f = 254 then M.t - 1 else M.t } := ⟨_, rfl⟩
        have hM1w : M1.ws = M.ws := by rw [hM1]
        have hM1s : M1.ss = M.ss := by rw [hM1]
        have hM1n : M1.n = M.n := by rw [hM1]
        have hstep : ∃ X1, X1 = (if byteN wd f = 254 then X.setCell ⟨b, 5, none⟩ (.int .i64 ((M.t - 1 : Nat) : Int)) else X) ∧ Lies 60 56 X1 b bw bs M1 ∧
            Boxed X1 w.heap.size 28 (.pointer (some ⟨b, 0, none⟩)) ∧ Boxed X1 (w.heap.size + 1) 9 (.string key) ∧ Boxed X1 (w.heap.size + 2) 9 (.string sv) ∧ Boxed X1 b2 5 (.int .u8 (M.what key : Nat)) ∧
            But [b, bw, bs] w X1 ∧ Keeps (b2 + 1) (b2 + 1 + 3) X X1 ∧ Keeps W5.heap.size B X X1 := by
          refine ⟨_, rfl, ?_⟩
          have hb4 : But [b, bw, bs] w X := But.of_below d4 (Nat.le_refl _)
          by_cases hx : byteN wd f = 254
          · rw [if_pos hx]
            rw [if_pos hx] at hM1
            have hn : ∀ k, k ≠ b → (X.setCell ⟨b, 5, none⟩ (.int .i64 ((M.t - 1 : Nat) : Int))).heap[k]? = X.heap[k]? := fun k hk => Below.heap_setCell _ _ _ _ hk
            refine ⟨by rw [hM1]; exact hL.setT _, (hn _ (by omega)).trans d0, (hn _ (by omega)).trans d1, (hn _ (by omega)).trans d2, (hn _ (by omega)).trans d3, hb4.setCell (p := ⟨b, 5, none⟩) (.inl (by simp)) _, (Keeps.refl _ _ _).setCell (p := ⟨b, 5, none⟩) (.inl (by show b < _; omega)) _, (Keeps.refl _ _ _).setCell (p := ⟨b, 5, none⟩) (.inl (by show b < _; omega)) _⟩
          · rw [if_neg hx]
            rw [if_neg hx] at hM1
            exact ⟨by rw [hM1]; exact hL, d0, d1, d2, d3, hb4, Keeps.refl _ _ _, Keeps.refl _ _ _⟩
        obtain ⟨X1, hX1, L1, p0, p1, p2, p3, hbut, hkA, hkB⟩ := hstep
        have hlay : Hid (M.lay key (.string sv) gx f = { M1 with ws := M1.ws.set gx (putN wd f (M.what key)), ss := M1.ss.set (8 * gx + f) (key, .string sv), n := M1.n + 1 }) := by
          show M.lay key (.string sv) gx f = _
          unfold SM.lay
          rw [hwd.out, hM1]
        obtain ⟨w1, s1', _, _, m2, m3, m4, m5, hw1, hs1⟩ := L1.cells
        rw [hM1w] at m2 hw1
        rw [hM1s] at m3 hs1
        rw [hM1n] at m4
        have z0 := p0.cell
        have z1 := p1.cell
        have z2 := p2.cell
        have z3 := p3.cell
        have fw := L1.freeW gx
        have kw1 : X1.cell? ⟨bw, gx, none⟩ = some (.int .u64 (wd : Int)) := by
          have h1 := L1.word gx (by rw [hM1w]; exact hgl)
          have h2 : M1.w gx = M.w gx := by unfold SM.w; rw [hM1w]
          rw [h2, hwd.out] at h1
          exact h1
        have hi1 : 8 * (gx : Int) + (f : Nat) < M.ss.length := by have := hF.slots; omega
        have hi2 : 8 * gx + f < M1.ss.length := by rw [hM1s]; have := hF.slots; omega
        have ks1 := L1.key _ hi2
        have ks2 := L1.val _ hi2
        have fs1 := L1.freeS ((8 * gx + f) * 2)
        have fs2 := L1.freeS ((8 * gx + f) * 2 + 1)
        have fn1 := L1.free 4
        have hget := fun W => get_at wd f rfl hf8 W hwl
        by_cases hx : byteN wd f = 254
        · rw [if_pos hx] at hX1
          have h1t := hdel hx
          have hti : (M.t : Int) - 1 = ((M.t - 1 : Nat) : Int) := by omega
          have f5 := hL.free 5
          gi_wp2_with (refine ⟨trivial, ?_⟩; gi_at_call 45; refine (CallsIn.inRound l (callsIn_wide.2 (hget _))).mono ?_; rintro e X ⟨rfl, rfl⟩; rw [hx])
          rw [← hX1]
          clear hX1 f5 hti h1t kw k2 k3 k4 k5 e0 hTX
          refine wpIn_round_last (by kernel_rfl) (by kernel_rfl) ?_
          dsimp only [initL, lastL]
          repeat (go_big_quiet_step ((go_at_call 46; exact Calls.quiet_of (set_any wd (f : Int) f (M.what key) (by omega) _ hwl (by omega)))))
          refine wpQuiet_nil ?_
          rintro _ ⟨nq, rfl⟩
          gi_wp2
          refine wpIn_round_last (by kernel_rfl) (by kernel_rfl) ?_
          dsimp only [initL, lastL]
          repeat (go_big_quiet_step (fail))
          refine wpQuiet_nil ?_
          rintro _ ⟨nr, rfl⟩
          gi_wp2
          rw [show (M.n : Int) + 1 = ((M1.n + 1 : Nat) : Int) by rw [hM1n]; omega]
          refine ⟨?_, ?_, rfl, ?_, ?_⟩
          · exact ((((((hkA.drewN nq).setCell (p := ⟨bw, gx, none⟩) (.inl (by show bw < _; omega)) _).drewN nr).setCell (p := ⟨bs, (8 * gx + f) * 2, none⟩) (.inl (by show bs < _; omega)) _).setCell (p := ⟨bs, (8 * gx + f) * 2 + 1, none⟩) (.inl (by show bs < _; omega)) _).setCell (p := ⟨b, 4, none⟩) (.inl (by show b < _; omega)) _)
          · exact ((((((hkB.drewN nq).setCell (p := ⟨bw, gx, none⟩) (.inl (by show bw < _; omega)) _).drewN nr).setCell (p := ⟨bs, (8 * gx + f) * 2, none⟩) (.inl (by show bs < _; omega)) _).setCell (p := ⟨bs, (8 * gx + f) * 2 + 1, none⟩) (.inl (by show bs < _; omega)) _).setCell (p := ⟨b, 4, none⟩) (.inl (by show b < _; omega)) _)
          · rw [hpl.out, hlay.out]
            exact ((((L1.drewN nq).setW gx (putN wd f (M.what key))).drewN nr).setS (8 * gx + f) key (.string sv)).setN (M1.n + 1)
          · exact ((((((hbut.drewN nq).setCell (p := ⟨bw, gx, none⟩) (.inl (by simp)) _).drewN nr).setCell (p := ⟨bs, (8 * gx + f) * 2, none⟩) (.inl (by simp)) _).setCell (p := ⟨bs, (8 * gx + f) * 2 + 1, none⟩) (.inl (by simp)) _).setCell (p := ⟨b, 4, none⟩) (.inl (by simp)) _)
        · rw [if_neg hx] at hX1
          have hx' : (byteN wd f : Int) ≠ 254 := by omega
          subst hX1
          have hX1 : X1 = X1 := rfl
          gi_wp2_with (refine ⟨trivial, ?_⟩; gi_at_call 45; refine (CallsIn.inRound l (callsIn_wide.2 (hget _))).mono ?_; rintro e X2 ⟨rfl, rfl⟩)
          clear hX1 kw k2 k3 k4 k5 e0 hTX
          refine wpIn_round_last (by kernel_rfl) (by kernel_rfl) ?_
          dsimp only [initL, lastL]
          repeat (go_big_quiet_step ((go_at_call 46; exact Calls.quiet_of (set_any wd (f : Int) f (M.what key) (by omega) _ hwl (by omega)))))
          refine wpQuiet_nil ?_
          rintro _ ⟨nq, rfl⟩
          gi_wp2
          refine wpIn_round_last (by kernel_rfl) (by kernel_rfl) ?_
          dsimp only [initL, lastL]
          repeat (go_big_quiet_step (fail))
          refine wpQuiet_nil ?_
          rintro _ ⟨nr, rfl⟩
          gi_wp2
          rw [show (M.n : Int) + 1 = ((M1.n + 1 : Nat) : Int) by rw [hM1n]; omega]
          refine ⟨?_, ?_, rfl, ?_, ?_⟩
          · exact ((((((hkA.drewN nq).setCell (p := ⟨bw, gx, none⟩) (.inl (by show bw < _; omega)) _).drewN nr).setCell (p := ⟨bs, (8 * gx + f) * 2, none⟩) (.inl (by show bs < _; omega)) _).setCell (p := ⟨bs, (8 * gx + f) * 2 + 1, none⟩) (.inl (by show bs < _; omega)) _).setCell (p := ⟨b, 4, none⟩) (.inl (by show b < _; omega)) _)
          · exact ((((((hkB.drewN nq).setCell (p := ⟨bw, gx, none⟩) (.inl (by show bw < _; omega)) _).drewN nr).setCell (p := ⟨bs, (8 * gx + f) * 2, none⟩) (.inl (by show bs < _; omega)) _).setCell (p := ⟨bs, (8 * gx + f) * 2 + 1, none⟩) (.inl (by show bs < _; omega)) _).setCell (p := ⟨b, 4, none⟩) (.inl (by show b < _; omega)) _)
          · rw [hpl.out, hlay.out]
            exact ((((L1.drewN nq).setW gx (putN wd f (M.what key))).drewN nr).setS (8 * gx + f) key (.string sv)).setN (M1.n + 1)
          · exact ((((((hbut.drewN nq).setCell (p := ⟨bw, gx, none⟩) (.inl (by simp)) _).drewN nr).setCell (p := ⟨bs, (8 * gx + f) * 2, none⟩) (.inl (by simp)) _).setCell (p := ⟨bs, (8 * gx + f) * 2 + 1, none⟩) (.inl (by simp)) _).setCell (p := ⟨b, 4, none⟩) (.inl (by simp)) _)
  case done =>
    rintro B X hB ⟨d0, d1, d2, d3, d4, d5⟩ hD
    have hsp := d5 [] (by rw [hgs, List.append_nil])
    have hpl : M.place key (.string sv) = M := by
      unfold SM.place
      rw [hsp]
      rfl
    have hpl' : Hid (M.place key (.string sv) = M) := hpl
    clear hpl hsp
    gi_wp2
    refine ⟨by simp, .inl ⟨_, _, rfl, run_takeDeferred hD, ?_⟩⟩
    have hb := fun o => d4.trans ((Outside.putObj (B := 0) o (Nat.le_refl _) hD rfl).below (C := w.heap.size) (by omega) d4.size)
    exact ⟨_, results_none rfl _ _ _, ⟨_, rfl⟩, by rw [hpl'.out]; exact h.below (hb _) (Nat.le_refl _), But.of_below (hb _) (Nat.le_refl _)⟩
  case stop =>
    rintro B c pre X hB hpre ⟨rfl, d1, d2⟩ hD
    gi_wp2
    refine ⟨by simp, .inl ⟨_, _, rfl, run_takeDeferred hD, ?_⟩⟩
    exact ⟨_, results_none rfl _ _ _, ⟨_, rfl⟩, d1.outside (Outside.putObj (B := 0) _ (Nat.le_refl _) hD rfl) (by omega), d2.putObj (.inr (by omega)) _⟩
end Go.Proofs.YthlghokgknkpaaaDoor

/-
  Contracts: swiss.empty[string], New[string].
-/
namespace Go.Proofs.YthlghokgknkpaaaDoor
open Go.RowKit Go.Shelf

theorem infoW_s : (Tryd.prog.info? 22).map (fun i => (i.zero, i.size, i.bytes)) = some (some (.int .u64 0), 1, 8) := by kernel_rfl
theorem infoS_s : (Tryd.prog.info? 56).map (fun i => (i.zero, i.size, i.bytes)) = some (some (.agg #[.string ⟨#[]⟩, (.string ⟨#[]⟩)]), 2, 32) := by kernel_rfl

def SM.half_s (k0 k1 : Int) (z : Value) (g j : Nat) : SM := ⟨k0, k1, List.replicate j noneW ++ List.replicate (g - j) 0, List.replicate (8 * g) (ByteArray.empty, z), 0, 0⟩

set_option maxRecDepth 100000 in
set_option maxHeartbeats 4000000 in
theorem empty_any_s (k0 k1 : Int) (g : Nat) (hg : isGood (g : Int) = true) (w : World) (h0 : 0 < w.heap.size) :
    Calls Tryd.prog 19 #[.agg #[.int .u64 k0, .int .u64 k1], .int .i64 (g : Int)] w fun e w' => ∃ b bw bs, e = .returned (.pointer (some ⟨b, 0, none⟩)) ∧
      Lies 60 56 w' b bw bs (SM.empty k0 k1 (.string ⟨#[]⟩) g) ∧ w.heap.size ≤ b ∧ w.heap.size ≤ bw ∧ w.heap.size ≤ bs ∧ Below w.heap.size w w' := by
  have hr := good_range hg
  obtain ⟨i1, hi1, hz1, hs1, hb1⟩ := info_parts infoW_s
  obtain ⟨i2, hi2, hz2, hs2, hb2⟩ := info_parts infoS_s
  have hmk1 := fun W : World => run_make (P := Tryd.prog) W 57 22 i1 _ Tryd.underlying57 hi1 hz1 .i64 .i64 (g : Int) (g : Int) (by omega) (by omega) (by rw [hb1]; omega) (by omega)
  have hmk2 := fun W : World => run_make (P := Tryd.prog) W 58 56 i2 _ Tryd.underlying58 hi2 hz2 .i64 .i64 (8 * (g : Int)) (8 * (g : Int)) (by omega) (by omega) (by rw [hb2]; omega) (by omega)
  rw [hs1] at hmk1
  rw [hs2] at hmk2
  simp only [Int.toNat_natCast, show (8 * (g : Int)).toNat = 8 * g by omega, Nat.mul_one, Value.cells] at hmk1 hmk2
  have hA1 : (madeCells #[.int .u64 0] g).toList = List.replicate g (.int .u64 0) := toList_madeCells_one _ _
  have hA2 : (madeCells #[.string ⟨#[]⟩, (.string ⟨#[]⟩)] (8 * g * 2)).toList = cellsS (List.replicate (8 * g) (ByteArray.empty, (.string ⟨#[]⟩))) := made_two _ _ _ _ rfl
  have hA3 : (madeCells #[.int .u64 0] g).size = g := size_madeCells _ _
  have hA4 : (madeCells #[.string ⟨#[]⟩, (.string ⟨#[]⟩)] (8 * g * 2)).size = 8 * g * 2 := size_madeCells _ _
  generalize madeCells #[.int .u64 0] g = A1 at *
  generalize madeCells #[.string ⟨#[]⟩, (.string ⟨#[]⟩)] (8 * g * 2) = A2 at *
  clear hi1 hi2 hz1 hz2 hs1 hs2 hb1 hb2 i1 i2
  go_enter Tryd.func19, Tryd.ntmps19
  go_wp2
  refine Code.wp_mono (Q := fun e a Y => e = .normal ∧ ∃ b bw bs : Nat, a = { tmps := #[.agg #[.int .u64 k0, .int .u64 k1], .int .i64 (g : Int), .pointer (some ⟨w.heap.size, 0, none⟩), undef, .pointer none, .pointer (some ⟨b, 0, none⟩), undef, .agg #[.int .u64 k0, .int .u64 k1], .int .i64 (g : Int), .slice (some ⟨bw, 0, none⟩) g g, .int .i64 (g : Int), .int .i64 (8 * (g : Int)), .slice (some ⟨bs, 0, none⟩) (8 * g) (8 * g), .agg #[.int .u64 k0, .int .u64 k1, .slice (some ⟨bw, 0, none⟩) g g, .slice (some ⟨bs, 0, none⟩) (8 * g) (8 * g), .int .i64 0, .int .i64 0], .pointer (some ⟨b, 0, none⟩), undef, undef, undef, undef, undef, undef, undef, undef, undef, undef, undef, undef, undef, undef, undef, undef], defers := [] } ∧
    Y.heap[b]? = some (.cells #[.int .u64 k0, .int .u64 k1, .slice (some ⟨bw, 0, none⟩) g g, .slice (some ⟨bs, 0, none⟩) (8 * g) (8 * g), .int .i64 0, .int .i64 0] 60 (0, 0)) ∧ Y.heap[bw]? = some (.cells A1 22 (0, 0)) ∧ Y.heap[bs]? = some (.cells A2 56 (0, 0)) ∧
    w.heap.size ≤ b ∧ w.heap.size ≤ bw ∧ w.heap.size ≤ bs ∧ b ≠ bw ∧ b ≠ bs ∧ bw ≠ bs ∧ Below w.heap.size w Y) ?_ ?_
  · rintro e a Y ⟨rfl, b, bw, bs, rfl, hb, hw, hs, g1, g2, g3, n1, n2, n3, hbel⟩
    have hlie : Lies 60 56 Y b bw bs (SM.half_s k0 k1 (.string ⟨#[]⟩) g 0) := by
      refine ⟨⟨g, 8 * g, ?_, ⟨?_, .inr ⟨bw, g, A1, ?_, Nat.zero_le _, hw, ?_, ?_, by rw [hA3, Nat.mul_one], ?_⟩⟩, ⟨?_, .inr ⟨bs, 8 * g, A2, ?_, Nat.zero_le _, hs, ?_, ?_, hA4, ?_⟩⟩⟩, ⟨n1, n2, n3⟩, by omega⟩
      · simp only [SM.half_s, List.replicate_zero, List.nil_append, List.length_replicate, Nat.sub_zero]
        exact hb
      · rw [cellsW_len, Nat.mul_one]
      · simp [SM.half_s]
      · simp [SM.half_s]
      · unfold maxLen; omega
      · simp only [SM.half_s, List.replicate_zero, List.nil_append, List.length_replicate, Nat.sub_zero, Nat.mul_one]
        rw [hA1, List.take_of_length_le (by simp)]
        simp [cellsW]
      · rw [cellsS_len]
      · simp [SM.half_s]
      · simp [SM.half_s]
      · unfold maxLen; omega
      · simp only [SM.half_s, List.length_replicate]
        rw [hA2, List.take_of_length_le (by rw [cellsS_len, List.length_replicate]; omega)]
    have hlw : ∀ j, j ≤ g → (SM.half_s k0 k1 (.string ⟨#[]⟩) g j).ws.length = g := fun j hj => by simp [SM.half_s]; omega
    obtain ⟨cw, cs, _, _, c2, _, _, _, _, _⟩ := hlie.cells
    rw [hlw 0 (by omega)] at c2
    clear hb hw hs hA1 hA2 hA3 hA4 hmk1 hmk2
    go_wp2
    go_loopw [20] (fun t wr => ∃ j : Nat, j ≤ g ∧ t = .int .i64 (j : Nat) ∧ Lies 60 56 wr b bw bs (SM.half_s k0 k1 (.string ⟨#[]⟩) g j) ∧ Below w.heap.size w wr) (fun t _ => g - (intOf t).toNat)
    case atStart => exact ⟨0, by omega, rfl, hlie, hbel⟩
    case round =>
      obtain ⟨j, hj, rfl, hl, hbr⟩ := hrel
      obtain ⟨cw', cs', _, _, c2', _, _, _, _, _⟩ := hl.cells
      rw [hlw j hj] at c2'
      by_cases hlt : j < g
      · have kw := hl.word j (by rw [hlw j hj]; exact hlt)
        have fw := hl.freeW j
        have hset := hl.setW j noneW
        have hnext : Hid ({ SM.half_s k0 k1 (.string ⟨#[]⟩) g j with ws := (SM.half_s k0 k1 (.string ⟨#[]⟩) g j).ws.set j noneW } = SM.half_s k0 k1 (.string ⟨#[]⟩) g (j + 1)) := by
          show _ = _
          unfold SM.half_s
          congr 1
          rw [show g - j = (g - (j + 1)) + 1 by omega, List.replicate_succ, List.set_append_right _ _ (by simp), List.length_replicate, Nat.sub_self, List.set_cons_zero, List.replicate_succ', List.append_assoc]
          rfl
        rw [hnext.out] at hset
        go_wp2
        go_roundw
        case rel => exact ⟨j + 1, by omega, by simp, hset, hbr.setCell (p := ⟨bw, j, none⟩) g2 _⟩
        case measure => simp only [intOf]; omega
      · obtain rfl : j = g := by omega
        have he : SM.half_s k0 k1 (.string ⟨#[]⟩) j j = SM.empty k0 k1 (.string ⟨#[]⟩) j := by
          unfold SM.half_s SM.empty
          rw [Nat.sub_self, List.replicate_zero, List.append_nil]
        rw [he] at hl
        clear he hlw hlie
        go_wp2
        go_ret
        exact ⟨b, bw, bs, rfl, hl, g1, g2, g3, hbr⟩
  · have hN : (w.alloc (.cells #[.int .u64 k0, .int .u64 k1] 24)).heap.size = w.heap.size + 1 := by simp
    have hU : Below w.heap.size w (w.alloc (.cells #[.int .u64 k0, .int .u64 k1] 24)) := (Below.refl _ _).alloc (Nat.le_refl _) _
    have h3 := fun o1 o2 o3 => three_new (w.alloc (.cells #[.int .u64 k0, .int .u64 k1] 24)) (w.heap.size + 1) hN o1 o2 o3
    go_region
    all_goals first
      | exact ⟨rfl, w.heap.size + 1 + 1 + 1, w.heap.size + 1, w.heap.size + 1 + 1, rfl, (h3 _ _ _).2.2.1, (h3 _ _ _).1, (h3 _ _ _).2.1, by omega, by omega, by omega, by omega, by omega, by omega, (hU.trans ((h3 _ _ _).2.2.2.mono (by omega))).drew⟩
      | exact ⟨rfl, w.heap.size + 1 + 1 + 1, w.heap.size + 1 + 1, w.heap.size + 1, rfl, (h3 _ _ _).2.2.1, (h3 _ _ _).2.1, (h3 _ _ _).1, by omega, by omega, by omega, by omega, by omega, by omega, (hU.trans ((h3 _ _ _).2.2.2.mono (by omega))).drew⟩
end Go.Proofs.YthlghokgknkpaaaDoor

/-
  Contracts: New[string]; Map[string].full, as an iterator that tells the places of all keys.
-/
namespace Go.Proofs.YthlghokgknkpaaaDoor
open Go.RowKit Go.Shelf

set_option maxHeartbeats 1000000 in
theorem new_nil_s (k0 k1 hint : Int) (w : World) (h1 : -9223372036854775808 ≤ hint) (h2 : hint < 9223372036854775808) (hn : needI hint = 0) :
    Calls Tryd.prog 6 #[.agg #[.int .u64 k0, .int .u64 k1], .int .i64 hint] w fun e w' => e = .returned (.pointer none) ∧ Below w.heap.size w w' := by
  have hb : Below w.heap.size w (w.alloc (.cells #[.int .u64 k0, .int .u64 k1] 24)) := (Below.refl _ _).alloc (Nat.le_refl _) _
  go_enter Tryd.func6, Tryd.ntmps6
  go_wp2_with (go_at_call 18; refine (need_any _ _ (by omega) (by omega)).mono ?_; rintro e w' ⟨rfl, rfl⟩; rw [hn])
  go_ret
  exact ⟨rfl, hb⟩

set_option maxHeartbeats 1000000 in
theorem new_any_s (k0 k1 hint : Int) (w : World) (h1 : -9223372036854775808 ≤ hint) (h2 : hint < 9223372036854775808) (hn : needI hint ≠ 0) :
    Calls Tryd.prog 6 #[.agg #[.int .u64 k0, .int .u64 k1], .int .i64 hint] w fun e w' => ∃ b bw bs, e = .returned (.pointer (some ⟨b, 0, none⟩)) ∧
      Lies 60 56 w' b bw bs (SM.empty k0 k1 (.string ⟨#[]⟩) (needI hint).toNat) ∧ w.heap.size ≤ b ∧ w.heap.size ≤ bw ∧ w.heap.size ≤ bs ∧ Below w.heap.size w w' := by
  have hg := (need_good hint).resolve_left hn
  have hneed := fun W : World => need_any hint W h1 h2
  have hr := good_range hg
  obtain ⟨g, hgg⟩ : ∃ g : Nat, needI hint = (g : Int) := ⟨(needI hint).toNat, by omega⟩
  rw [hgg] at hg hn hr hneed ⊢
  rw [Int.toNat_natCast]
  have hb : Below w.heap.size w (w.alloc (.cells #[.int .u64 k0, .int .u64 k1] 24)) := (Below.refl _ _).alloc (Nat.le_refl _) _
  clear hgg
  go_enter Tryd.func6, Tryd.ntmps6
  go_wp2_with (go_at_call 18; refine (hneed _).mono ?_; rintro e w' ⟨rfl, rfl⟩)
  refine (empty_any_s k0 k1 g hg _ (by simp)).mono ?_
  rintro e W1 ⟨b, bw, bs, rfl, hl, g1, g2, g3, hb1⟩
  rw [World.size_alloc] at g1 g2 g3
  have hbb := hb.trans (hb1.mono (by simp))
  clear hb1 hb
  go_wp2
  go_ret
  exact ⟨b, bw, bs, rfl, hl, by omega, by omega, by omega, hbb⟩

set_option maxRecDepth 100000 in
set_option maxHeartbeats 4000000 in
theorem full_seq_s (b bw bs N : Nat) (M : SM) (w : World) (hT : Tab w) (h : Lies 60 56 w b bw bs M) (hF : M.Fit) (hN : b < N ∧ bw < N ∧ bs < N) :
    SeqV Tryd.prog 43 #[.pointer (some ⟨b, 0, none⟩)] #[] (fun x : Nat => #[.int .i64 (x : Nat)]) 0 N M.full w := by
  intro l J Jx W hK hJ hJx hY h0
  have hr := good_range hF.good
  have hW := h.keeps hK hN
  have hTW := hT.keeps hK (by omega)
  obtain ⟨cw, cs, _, _, c2, _, _, _, hcw, _⟩ := hW.cells
  refine (callsIn_wide (n := 3)).1 ?_
  refine callsIn_of_wp Tryd.func43 rfl trivial ?_ rfl
  simp only [Tryd.ntmps43, List.size_toArray, List.length_cons, List.length_nil, Nat.reduceAdd, Nat.reduceSub, Array.replicate_succ, Array.replicate_zero, List.push_toArray, List.append_toArray, List.nil_append, List.cons_append]
  gi_wp2
  gi_loopw [12] (fun p wr => ∃ k : Nat, k ≤ M.ws.length ∧ p = .int .i64 (k : Nat) ∧ W.heap.size ≤ wr.heap.size ∧ Keeps 0 N W wr ∧ J W.heap.size (M.fullTo (8 * k)) wr) (fun p _ => M.ws.length - (intOf p).toNat)
  case atStart => exact ⟨0, by omega, rfl, Nat.le_refl _, Keeps.refl _ _ _, h0 W (Below.refl _ _)⟩
  case round =>
    obtain ⟨k, hk, rfl, hz, hkp, hJk⟩ := hrel
    by_cases hlt : k < M.ws.length
    · have hR := hW.keeps hkp hN
      have kw := hR.word k hlt
      have hwl := hF.words k hlt
      have hstep : Hid (M.fullTo (8 * (k + 1)) = M.fullTo (8 * k) ++ (slotsL (fullN (M.w k))).map (8 * k + ·)) := fullTo_step M k
      have hpre0 : Hid (M.fullTo (8 * (k + 1)) <+: M.full) := fullTo_pre M (by omega)
      generalize M.w k = wd at *
      have hfl := fullN_lt wd
      gi_wp2_with (refine ⟨trivial, ?_⟩; gi_at_call 64; refine (callsIn_wide.2 (full_any wd _ hwl)).mono ?_; rintro e X ⟨rfl, rfl⟩)
      gi_loopw [6] (fun p wr => ∃ (q : Nat) (pre : List Nat), p = .int .u8 (q : Nat) ∧ q < 256 ∧ Hid (M.fullTo (8 * (k + 1)) = pre ++ (slotsL q).map (8 * k + ·)) ∧ W.heap.size ≤ wr.heap.size ∧ Keeps 0 N W wr ∧ J W.heap.size pre wr) (fun p _ => (slotsL (intOf p).toNat).length)
      case atStart => exact ⟨_, _, rfl, hfl, hstep, hz, hkp, hJk⟩
      case round =>
        obtain ⟨q, pre, rfl, hq, hp2, hz2, hkp2, hJp⟩ := hrel
        clear hstep hJk kw
        by_cases h0q : q = 0
        · subst h0q
          have hpe : Hid (M.fullTo (8 * (k + 1)) = pre) := by
            have := hp2.out
            rw [slots_zero, List.map_nil, List.append_nil] at this
            exact this
          gi_wp2
          go_roundw
          case rel => exact ⟨k + 1, by omega, by simp, hz2, hkp2, by rw [hpe.out]; exact hJp⟩
          case measure => simp only [intOf]; omega
        · have hst := slots_step ⟨q, hq⟩ h0q
          dsimp only at hst
          have hp3 : Hid (M.fullTo (8 * (k + 1)) = (pre ++ [8 * k + firstN q]) ++ (slotsL (nextN q)).map (8 * k + ·)) := by
            show _ = _
            rw [hp2.out, hst, List.map_cons, List.append_assoc]
            rfl
          have hpre2 : pre ++ [8 * k + firstN q] <+: M.full := by
            refine List.IsPrefix.trans ?_ hpre0.out
            rw [hp3.out]
            exact List.prefix_append _ _
          have hf8 : firstN q < 8 := by
            have : firstN q ∈ slotsL q := by rw [hst]; exact List.mem_cons_self
            exact List.mem_range.1 (List.mem_filter.1 this).1
          have hn8 := nextN_lt q hq
          have hlen : Hid ((slotsL (nextN q)).length < (slotsL q).length) := by
            show _ < _
            rw [hst]; simp
          have hf := first_any q wr (hTW.keeps hkp2 (by omega)) hq
          have hnx := fun W => next_any q W hq
          clear hst hp2
          generalize firstN q = f at *
          obtain ⟨fn, tmps, assign, body, hy, hR⟩ := YieldAt.wide (m' := 2) (hY W.heap.size pre (8 * k + f) wr (Nat.le_refl _) hz2 hpre2 hJp)
          rw [show ((8 * k + f : Nat) : Int) = 8 * (k : Int) + (f : Int) by omega] at hy
          gi_wp2_with (refine ⟨trivial, ?_⟩; gi_at_call 41; refine (callsIn_wide.2 hf).mono ?_; rintro e X ⟨rfl, rfl⟩)
          refine hR.mono ?_
          clear hR hy
          rintro e W3 ⟨bb, rfl, hk1, hk2, hb⟩
          have hz3 := hk2.size
          cases bb with
          | true =>
            rw [if_pos rfl] at hb
            gi_wp2_with (refine ⟨trivial, ?_⟩; gi_at_call 40; refine (callsIn_wide.2 (hnx _)).mono ?_; rintro e X3 ⟨rfl, rfl⟩)
            go_roundw
            case rel => exact ⟨nextN q, _, rfl, hn8, hp3, by omega, hkp2.trans hk1, hb⟩
            case measure => exact hlen.out
          | false =>
            rw [if_neg (by simp)] at hb
            gi_wp2
            refine bodyPost_ret (results_none rfl _ _ _) rfl ?_
            exact ⟨⟨_, rfl⟩, W.heap.size, Nat.le_refl _, .inr ⟨_, hpre2, hb⟩⟩
    · obtain rfl : k = M.ws.length := by omega
      gi_wp2
      go_end0
      exact ⟨⟨_, rfl⟩, W.heap.size, Nat.le_refl _, .inl hJk⟩
end Go.Proofs.YthlghokgknkpaaaDoor
