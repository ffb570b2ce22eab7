/-
  Contracts: New[int]; Map[int].full, as an iterator that tells the places of all keys.
-/
import Derived.Test.YtkjnifipepiahaaDoorSwEi
namespace Go.Proofs.YtkjnifipepiahaaDoor
open Go.RowKit Go.Shelf

set_option maxHeartbeats 1000000 in
theorem new_nil_i (k0 k1 hint : Int) (w : World) (h1 : -9223372036854775808 ≤ hint) (h2 : hint < 9223372036854775808) (hn : needI hint = 0) :
    Calls Tryd.prog 50 #[.agg #[.int .u64 k0, .int .u64 k1], .int .i64 hint] w fun e w' => e = .returned (.pointer none) ∧ Below w.heap.size w w' := by
  have hb : Below w.heap.size w (w.alloc (.cells #[.int .u64 k0, .int .u64 k1] 24)) := (Below.refl _ _).alloc (Nat.le_refl _) _
  go_enter Tryd.func50, Tryd.ntmps50
  go_wp2_with (go_at_call 46; refine (need_any _ _ (by omega) (by omega)).mono ?_; rintro e w' ⟨rfl, rfl⟩; rw [hn])
  go_ret
  exact ⟨rfl, hb⟩

set_option maxHeartbeats 1000000 in
theorem new_any_i (k0 k1 hint : Int) (w : World) (h1 : -9223372036854775808 ≤ hint) (h2 : hint < 9223372036854775808) (hn : needI hint ≠ 0) :
    Calls Tryd.prog 50 #[.agg #[.int .u64 k0, .int .u64 k1], .int .i64 hint] w fun e w' => ∃ b bw bs, e = .returned (.pointer (some ⟨b, 0, none⟩)) ∧
      Lies 60 93 w' b bw bs (SM.empty k0 k1 (.int .i64 0) (needI hint).toNat) ∧ w.heap.size ≤ b ∧ w.heap.size ≤ bw ∧ w.heap.size ≤ bs ∧ Below w.heap.size w w' := by
  have hg := (need_good hint).resolve_left hn
  have hneed := fun W : World => need_any hint W h1 h2
  have hr := good_range hg
  obtain ⟨g, hgg⟩ : ∃ g : Nat, needI hint = (g : Int) := ⟨(needI hint).toNat, by omega⟩
  rw [hgg] at hg hn hr hneed ⊢
  rw [Int.toNat_natCast]
  have hb : Below w.heap.size w (w.alloc (.cells #[.int .u64 k0, .int .u64 k1] 24)) := (Below.refl _ _).alloc (Nat.le_refl _) _
  clear hgg
  go_enter Tryd.func50, Tryd.ntmps50
  go_wp2_with (go_at_call 46; refine (hneed _).mono ?_; rintro e w' ⟨rfl, rfl⟩)
  refine (empty_any_i k0 k1 g hg _ (by simp)).mono ?_
  rintro e W1 ⟨b, bw, bs, rfl, hl, g1, g2, g3, hb1⟩
  rw [World.size_alloc] at g1 g2 g3
  have hbb := hb.trans (hb1.mono (by simp))
  clear hb1 hb
  go_wp2
  go_ret
  exact ⟨b, bw, bs, rfl, hl, by omega, by omega, by omega, hbb⟩

set_option maxRecDepth 100000 in
set_option maxHeartbeats 4000000 in
theorem full_seq_i (b bw bs N : Nat) (M : SM) (w : World) (hT : Tab w) (h : Lies 60 93 w b bw bs M) (hF : M.Fit) (hN : b < N ∧ bw < N ∧ bs < N) :
    SeqV Tryd.prog 70 #[.pointer (some ⟨b, 0, none⟩)] #[] (fun x : Nat => #[.int .i64 (x : Nat)]) 0 N M.full w := by
  intro l J Jx W hK hJ hJx hY h0
  have hr := good_range hF.good
  have hW := h.keeps hK hN
  have hTW := hT.keeps hK (by omega)
  obtain ⟨cw, cs, _, _, c2, _, _, _, hcw, _⟩ := hW.cells
  refine (callsIn_wide (n := 3)).1 ?_
  refine callsIn_of_wp Tryd.func70 rfl trivial ?_ rfl
  simp only [Tryd.ntmps70, List.size_toArray, List.length_cons, List.length_nil, Nat.reduceAdd, Nat.reduceSub, Array.replicate_succ, Array.replicate_zero, List.push_toArray, List.append_toArray, List.nil_append, List.cons_append]
  gi_wp2
  gi_loopw [12] (fun p wr => ∃ k : Nat, k ≤ M.ws.length ∧ p = .int .i64 (k : Nat) ∧ W.heap.size ≤ wr.heap.size ∧ Keeps 0 N W wr ∧ J W.heap.size (M.fullTo (8 * k)) wr) (fun p _ => M.ws.length - (intOf p).toNat)
  case atStart => exact ⟨0, by omega, rfl, Nat.le_refl _, Keeps.refl _ _ _, h0 W (Below.refl _ _)⟩
  case round =>
    obtain ⟨k, hk, rfl, hz, hkp, hJk⟩ := hrel
    by_cases hlt : k < M.ws.length
    · have hR := hW.keeps hkp hN
      have kw := hR.word k hlt
      have hwl := hF.words k hlt
      have hstep : Hid (M.fullTo (8 * (k + 1)) = M.fullTo (8 * k) ++ (slotsL (fullN (M.w k))).map (8 * k + ·)) := fullTo_step M k
      have hpre0 : Hid (M.fullTo (8 * (k + 1)) <+: M.full) := fullTo_pre M (by omega)
      generalize M.w k = wd at *
      have hfl := fullN_lt wd
      gi_wp2_with (refine ⟨trivial, ?_⟩; gi_at_call 92; refine (callsIn_wide.2 (full_any wd _ hwl)).mono ?_; rintro e X ⟨rfl, rfl⟩)
      gi_loopw [6] (fun p wr => ∃ (q : Nat) (pre : List Nat), p = .int .u8 (q : Nat) ∧ q < 256 ∧ Hid (M.fullTo (8 * (k + 1)) = pre ++ (slotsL q).map (8 * k + ·)) ∧ W.heap.size ≤ wr.heap.size ∧ Keeps 0 N W wr ∧ J W.heap.size pre wr) (fun p _ => (slotsL (intOf p).toNat).length)
      case atStart => exact ⟨_, _, rfl, hfl, hstep, hz, hkp, hJk⟩
      case round =>
        obtain ⟨q, pre, rfl, hq, hp2, hz2, hkp2, hJp⟩ := hrel
        clear hstep hJk kw
        by_cases h0q : q = 0
        · subst h0q
          have hpe : Hid (M.fullTo (8 * (k + 1)) = pre) := by
            have := hp2.out
            rw [slots_zero, List.map_nil, List.append_nil] at this
            exact this
          gi_wp2
          go_roundw
          case rel => exact ⟨k + 1, by omega, by simp, hz2, hkp2, by rw [hpe.out]; exact hJp⟩
          case measure => simp only [intOf]; omega
        · have hst := slots_step ⟨q, hq⟩ h0q
          dsimp only at hst
          have hp3 : Hid (M.fullTo (8 * (k + 1)) = (pre ++ [8 * k + firstN q]) ++ (slotsL (nextN q)).map (8 * k + ·)) := by
            show _ = _
            rw [hp2.out, hst, List.map_cons, List.append_assoc]
            rfl
          have hpre2 : pre ++ [8 * k + firstN q] <+: M.full := by
            refine List.IsPrefix.trans ?_ hpre0.out
            rw [hp3.out]
            exact List.prefix_append _ _
          have hf8 : firstN q < 8 := by
            have : firstN q ∈ slotsL q := by rw [hst]; exact List.mem_cons_self
            exact List.mem_range.1 (List.mem_filter.1 this).1
          have hn8 := nextN_lt q hq
          have hlen : Hid ((slotsL (nextN q)).length < (slotsL q).length) := by
            show _ < _
            rw [hst]; simp
          have hf := first_any q wr (hTW.keeps hkp2 (by omega)) hq
          have hnx := fun W => next_any q W hq
          clear hst hp2
          generalize firstN q = f at *
          obtain ⟨fn, tmps, assign, body, hy, hR⟩ := YieldAt.wide (m' := 2) (hY W.heap.size pre (8 * k + f) wr (Nat.le_refl _) hz2 hpre2 hJp)
          rw [show ((8 * k + f : Nat) : Int) = 8 * (k : Int) + (f : Int) by omega] at hy
          gi_wp2_with (refine ⟨trivial, ?_⟩; gi_at_call 84; refine (callsIn_wide.2 hf).mono ?_; rintro e X ⟨rfl, rfl⟩)
          refine hR.mono ?_
          clear hR hy
          rintro e W3 ⟨bb, rfl, hk1, hk2, hb⟩
          have hz3 := hk2.size
          cases bb with
          | true =>
            rw [if_pos rfl] at hb
            gi_wp2_with (refine ⟨trivial, ?_⟩; gi_at_call 83; refine (callsIn_wide.2 (hnx _)).mono ?_; rintro e X3 ⟨rfl, rfl⟩)
            go_roundw
            case rel => exact ⟨nextN q, _, rfl, hn8, hp3, by omega, hkp2.trans hk1, hb⟩
            case measure => exact hlen.out
          | false =>
            rw [if_neg (by simp)] at hb
            gi_wp2
            refine bodyPost_ret (results_none rfl _ _ _) rfl ?_
            exact ⟨⟨_, rfl⟩, W.heap.size, Nat.le_refl _, .inr ⟨_, hpre2, hb⟩⟩
    · obtain rfl : k = M.ws.length := by omega
      gi_wp2
      go_end0
      exact ⟨⟨_, rfl⟩, W.heap.size, Nat.le_refl _, .inl hJk⟩
end Go.Proofs.YtkjnifipepiahaaDoor
