import Derived.Test.YtiobfdfmfgjpfaaDoorSwDsTo
import Derived.Deep.OwnRows
import Derived.Deep.RegionWith
import Derived.Laws.MakeOwn
import Derived.Test.YtiobfdfmfgjpfaaDoorSwP2To
/-
  Contracts: swiss.empty[string], New[string].
-/
namespace Go.Proofs.YtiobfdfmfgjpfaaDoor
open Go.RowKit Go.Shelf

theorem infoW_s : (Tryd.prog.info? 22).map (fun i => (i.zero, i.size, i.bytes)) = some (some (.int .u64 0), 1, 8) := by kernel_rfl
theorem infoS_s : (Tryd.prog.info? 77).map (fun i => (i.zero, i.size, i.bytes)) = some (some (.agg #[.string ⟨#[]⟩, (.string ⟨#[]⟩)]), 2, 32) := by kernel_rfl

def SM.half_s (k0 k1 : Int) (z : Value) (g j : Nat) : SM := ⟨k0, k1, List.replicate j noneW ++ List.replicate (g - j) 0, List.replicate (8 * g) (ByteArray.empty, z), 0, 0⟩

set_option maxRecDepth 100000 in
set_option maxHeartbeats 4000000 in
theorem empty_any_s (k0 k1 : Int) (g : Nat) (hg : isGood (g : Int) = true) (w : World) (h0 : 0 < w.heap.size) :
    Calls Tryd.prog 29 #[.agg #[.int .u64 k0, .int .u64 k1], .int .i64 (g : Int)] w fun e w' => ∃ b bw bs, e = .returned (.pointer (some ⟨b, 0, none⟩)) ∧
      Lies 81 77 w' b bw bs (SM.empty k0 k1 (.string ⟨#[]⟩) g) ∧ w.heap.size ≤ b ∧ w.heap.size ≤ bw ∧ w.heap.size ≤ bs ∧ Below w.heap.size w w' := by
  have hr := good_range hg
  obtain ⟨i1, hi1, hz1, hs1, hb1⟩ := info_parts infoW_s
  obtain ⟨i2, hi2, hz2, hs2, hb2⟩ := info_parts infoS_s
  have hmk1 := fun W : World => run_make (P := Tryd.prog) W 78 22 i1 _ Tryd.underlying78 hi1 hz1 .i64 .i64 (g : Int) (g : Int) (by omega) (by omega) (by rw [hb1]; omega) (by omega)
  have hmk2 := fun W : World => run_make (P := Tryd.prog) W 79 77 i2 _ Tryd.underlying79 hi2 hz2 .i64 .i64 (8 * (g : Int)) (8 * (g : Int)) (by omega) (by omega) (by rw [hb2]; omega) (by omega)
  rw [hs1] at hmk1
  rw [hs2] at hmk2
  simp only [Int.toNat_natCast, show (8 * (g : Int)).toNat = 8 * g by omega, Nat.mul_one, Value.cells] at hmk1 hmk2
  have hA1 : (madeCells #[.int .u64 0] g).toList = List.replicate g (.int .u64 0) := toList_madeCells_one _ _
  have hA2 : (madeCells #[.string ⟨#[]⟩, (.string ⟨#[]⟩)] (8 * g * 2)).toList = cellsS (List.replicate (8 * g) (ByteArray.empty, (.string ⟨#[]⟩))) := made_two _ _ _ _ rfl
  have hA3 : (madeCells #[.int .u64 0] g).size = g := size_madeCells _ _
  have hA4 : (madeCells #[.string ⟨#[]⟩, (.string ⟨#[]⟩)] (8 * g * 2)).size = 8 * g * 2 := size_madeCells _ _
  generalize madeCells #[.int .u64 0] g = A1 at *
  generalize madeCells #[.string ⟨#[]⟩, (.string ⟨#[]⟩)] (8 * g * 2) = A2 at *
  clear hi1 hi2 hz1 hz2 hs1 hs2 hb1 hb2 i1 i2
  go_enter Tryd.func29, Tryd.ntmps29
  go_wp2
  refine Code.wp_mono (Q := fun e a Y => e = .normal ∧ ∃ b bw bs : Nat, a = { tmps := #[.agg #[.int .u64 k0, .int .u64 k1], .int .i64 (g : Int), .pointer (some ⟨w.heap.size, 0, none⟩), undef, .pointer none, .pointer (some ⟨b, 0, none⟩), undef, .agg #[.int .u64 k0, .int .u64 k1], .int .i64 (g : Int), .slice (some ⟨bw, 0, none⟩) g g, .int .i64 (g : Int), .int .i64 (8 * (g : Int)), .slice (some ⟨bs, 0, none⟩) (8 * g) (8 * g), .agg #[.int .u64 k0, .int .u64 k1, .slice (some ⟨bw, 0, none⟩) g g, .slice (some ⟨bs, 0, none⟩) (8 * g) (8 * g), .int .i64 0, .int .i64 0], .pointer (some ⟨b, 0, none⟩), undef, undef, undef, undef, undef, undef, undef, undef, undef, undef, undef, undef, undef, undef, undef, undef], defers := [] } ∧
    Y.heap[b]? = some (.cells #[.int .u64 k0, .int .u64 k1, .slice (some ⟨bw, 0, none⟩) g g, .slice (some ⟨bs, 0, none⟩) (8 * g) (8 * g), .int .i64 0, .int .i64 0] 81 (0, 0)) ∧ Y.heap[bw]? = some (.cells A1 22 (0, 0)) ∧ Y.heap[bs]? = some (.cells A2 77 (0, 0)) ∧
    w.heap.size ≤ b ∧ w.heap.size ≤ bw ∧ w.heap.size ≤ bs ∧ b ≠ bw ∧ b ≠ bs ∧ bw ≠ bs ∧ Below w.heap.size w Y) ?_ ?_
  · rintro e a Y ⟨rfl, b, bw, bs, rfl, hb, hw, hs, g1, g2, g3, n1, n2, n3, hbel⟩
    have hlie : Lies 81 77 Y b bw bs (SM.half_s k0 k1 (.string ⟨#[]⟩) g 0) := by
      refine ⟨⟨g, 8 * g, ?_, ⟨?_, .inr ⟨bw, g, A1, ?_, Nat.zero_le _, hw, ?_, ?_, by rw [hA3, Nat.mul_one], ?_⟩⟩, ⟨?_, .inr ⟨bs, 8 * g, A2, ?_, Nat.zero_le _, hs, ?_, ?_, hA4, ?_⟩⟩⟩, ⟨n1, n2, n3⟩, by omega⟩
      · simp only [SM.half_s, List.replicate_zero, List.nil_append, List.length_replicate, Nat.sub_zero]
        exact hb
      · rw [cellsW_len, Nat.mul_one]
      · simp [SM.half_s]
      · simp [SM.half_s]
      · unfold maxLen; omega
      · simp only [SM.half_s, List.replicate_zero, List.nil_append, List.length_replicate, Nat.sub_zero, Nat.mul_one]
        rw [hA1, List.take_of_length_le (by simp)]
        simp [cellsW]
      · rw [cellsS_len]
      · simp [SM.half_s]
      · simp [SM.half_s]
      · unfold maxLen; omega
      · simp only [SM.half_s, List.length_replicate]
        rw [hA2, List.take_of_length_le (by rw [cellsS_len, List.length_replicate]; omega)]
    have hlw : ∀ j, j ≤ g → (SM.half_s k0 k1 (.string ⟨#[]⟩) g j).ws.length = g := fun j hj => by simp [SM.half_s]; omega
    obtain ⟨cw, cs, _, _, c2, _, _, _, _, _⟩ := hlie.cells
    rw [hlw 0 (by omega)] at c2
    clear hb hw hs hA1 hA2 hA3 hA4 hmk1 hmk2
    go_wp2
    go_loopw [20] (fun t wr => ∃ j : Nat, j ≤ g ∧ t = .int .i64 (j : Nat) ∧ Lies 81 77 wr b bw bs (SM.half_s k0 k1 (.string ⟨#[]⟩) g j) ∧ Below w.heap.size w wr) (fun t _ => g - (intOf t).toNat)
    case atStart => exact ⟨0, by omega, rfl, hlie, hbel⟩
    case round =>
      obtain ⟨j, hj, rfl, hl, hbr⟩ := hrel
      obtain ⟨cw', cs', _, _, c2', _, _, _, _, _⟩ := hl.cells
      rw [hlw j hj] at c2'
      by_cases hlt : j < g
      · have kw := hl.word j (by rw [hlw j hj]; exact hlt)
        have fw := hl.freeW j
        have hset := hl.setW j noneW
        have hnext : Hid ({ SM.half_s k0 k1 (.string ⟨#[]⟩) g j with ws := (SM.half_s k0 k1 (.string ⟨#[]⟩) g j).ws.set j noneW } = SM.half_s k0 k1 (.string ⟨#[]⟩) g (j + 1)) := by
          show _ = _
          unfold SM.half_s
          congr 1
          rw [show g - j = (g - (j + 1)) + 1 by omega, List.replicate_succ, List.set_append_right _ _ (by simp), List.length_replicate, Nat.sub_self, List.set_cons_zero, List.replicate_succ', List.append_assoc]
          rfl
        rw [hnext.out] at hset
        go_wp2
        go_roundw
        case rel => exact ⟨j + 1, by omega, by simp, hset, hbr.setCell (p := ⟨bw, j, none⟩) g2 _⟩
        case measure => simp only [intOf]; omega
      · obtain rfl : j = g := by omega
        have he : SM.half_s k0 k1 (.string ⟨#[]⟩) j j = SM.empty k0 k1 (.string ⟨#[]⟩) j := by
          unfold SM.half_s SM.empty
          rw [Nat.sub_self, List.replicate_zero, List.append_nil]
        rw [he] at hl
        clear he hlw hlie
        go_wp2
        go_ret
        exact ⟨b, bw, bs, rfl, hl, g1, g2, g3, hbr⟩
  · have hN : (w.alloc (.cells #[.int .u64 k0, .int .u64 k1] 24)).heap.size = w.heap.size + 1 := by simp
    have hU : Below w.heap.size w (w.alloc (.cells #[.int .u64 k0, .int .u64 k1] 24)) := (Below.refl _ _).alloc (Nat.le_refl _) _
    have h3 := fun o1 o2 o3 => three_new (w.alloc (.cells #[.int .u64 k0, .int .u64 k1] 24)) (w.heap.size + 1) hN o1 o2 o3
    go_region
    all_goals first
      | exact ⟨rfl, w.heap.size + 1 + 1 + 1, w.heap.size + 1, w.heap.size + 1 + 1, rfl, (h3 _ _ _).2.2.1, (h3 _ _ _).1, (h3 _ _ _).2.1, by omega, by omega, by omega, by omega, by omega, by omega, (hU.trans ((h3 _ _ _).2.2.2.mono (by omega))).drew⟩
      | exact ⟨rfl, w.heap.size + 1 + 1 + 1, w.heap.size + 1 + 1, w.heap.size + 1, rfl, (h3 _ _ _).2.2.1, (h3 _ _ _).2.1, (h3 _ _ _).1, by omega, by omega, by omega, by omega, by omega, by omega, (hU.trans ((h3 _ _ _).2.2.2.mono (by omega))).drew⟩
end Go.Proofs.YtiobfdfmfgjpfaaDoor

/-
  Contracts: New[string]; Map[string].full, as an iterator that tells the places of all keys.
-/
namespace Go.Proofs.YtiobfdfmfgjpfaaDoor
open Go.RowKit Go.Shelf

set_option maxHeartbeats 1000000 in
theorem new_nil_s (k0 k1 hint : Int) (w : World) (h1 : -9223372036854775808 ≤ hint) (h2 : hint < 9223372036854775808) (hn : needI hint = 0) :
    Calls Tryd.prog 7 #[.agg #[.int .u64 k0, .int .u64 k1], .int .i64 hint] w fun e w' => e = .returned (.pointer none) ∧ Below w.heap.size w w' := by
  have hb : Below w.heap.size w (w.alloc (.cells #[.int .u64 k0, .int .u64 k1] 24)) := (Below.refl _ _).alloc (Nat.le_refl _) _
  go_enter Tryd.func7, Tryd.ntmps7
  go_wp2_with (go_at_call 28; refine (need_any _ _ (by omega) (by omega)).mono ?_; rintro e w' ⟨rfl, rfl⟩; rw [hn])
  go_ret
  exact ⟨rfl, hb⟩

set_option maxHeartbeats 1000000 in
theorem new_any_s (k0 k1 hint : Int) (w : World) (h1 : -9223372036854775808 ≤ hint) (h2 : hint < 9223372036854775808) (hn : needI hint ≠ 0) :
    Calls Tryd.prog 7 #[.agg #[.int .u64 k0, .int .u64 k1], .int .i64 hint] w fun e w' => ∃ b bw bs, e = .returned (.pointer (some ⟨b, 0, none⟩)) ∧
      Lies 81 77 w' b bw bs (SM.empty k0 k1 (.string ⟨#[]⟩) (needI hint).toNat) ∧ w.heap.size ≤ b ∧ w.heap.size ≤ bw ∧ w.heap.size ≤ bs ∧ Below w.heap.size w w' := by
  have hg := (need_good hint).resolve_left hn
  have hneed := fun W : World => need_any hint W h1 h2
  have hr := good_range hg
  obtain ⟨g, hgg⟩ : ∃ g : Nat, needI hint = (g : Int) := ⟨(needI hint).toNat, by omega⟩
  rw [hgg] at hg hn hr hneed ⊢
  rw [Int.toNat_natCast]
  have hb : Below w.heap.size w (w.alloc (.cells #[.int .u64 k0, .int .u64 k1] 24)) := (Below.refl _ _).alloc (Nat.le_refl _) _
  clear hgg
  go_enter Tryd.func7, Tryd.ntmps7
  go_wp2_with (go_at_call 28; refine (hneed _).mono ?_; rintro e w' ⟨rfl, rfl⟩)
  refine (empty_any_s k0 k1 g hg _ (by simp)).mono ?_
  rintro e W1 ⟨b, bw, bs, rfl, hl, g1, g2, g3, hb1⟩
  rw [World.size_alloc] at g1 g2 g3
  have hbb := hb.trans (hb1.mono (by simp))
  clear hb1 hb
  go_wp2
  go_ret
  exact ⟨b, bw, bs, rfl, hl, by omega, by omega, by omega, hbb⟩

set_option maxRecDepth 100000 in
set_option maxHeartbeats 4000000 in
theorem full_seq_s (b bw bs N : Nat) (M : SM) (w : World) (hT : Tab w) (h : Lies 81 77 w b bw bs M) (hF : M.Fit) (hN : b < N ∧ bw < N ∧ bs < N) :
    SeqV Tryd.prog 46 #[.pointer (some ⟨b, 0, none⟩)] #[] (fun x : Nat => #[.int .i64 (x : Nat)]) 0 N M.full w := by
  intro l J Jx W hK hJ hJx hY h0
  have hr := good_range hF.good
  have hW := h.keeps hK hN
  have hTW := hT.keeps hK (by omega)
  obtain ⟨cw, cs, _, _, c2, _, _, _, hcw, _⟩ := hW.cells
  refine (callsIn_wide (n := 3)).1 ?_
  refine callsIn_of_wp Tryd.func46 rfl trivial ?_ rfl
  simp only [Tryd.ntmps46, List.size_toArray, List.length_cons, List.length_nil, Nat.reduceAdd, Nat.reduceSub, Array.replicate_succ, Array.replicate_zero, List.push_toArray, List.append_toArray, List.nil_append, List.cons_append]
  gi_wp2
  gi_loopw [12] (fun p wr => ∃ k : Nat, k ≤ M.ws.length ∧ p = .int .i64 (k : Nat) ∧ W.heap.size ≤ wr.heap.size ∧ Keeps 0 N W wr ∧ J W.heap.size (M.fullTo (8 * k)) wr) (fun p _ => M.ws.length - (intOf p).toNat)
  case atStart => exact ⟨0, by omega, rfl, Nat.le_refl _, Keeps.refl _ _ _, h0 W (Below.refl _ _)⟩
  case round =>
    obtain ⟨k, hk, rfl, hz, hkp, hJk⟩ := hrel
    by_cases hlt : k < M.ws.length
    · have hR := hW.keeps hkp hN
      have kw := hR.word k hlt
      have hwl := hF.words k hlt
      have hstep : Hid (M.fullTo (8 * (k + 1)) = M.fullTo (8 * k) ++ (slotsL (fullN (M.w k))).map (8 * k + ·)) := fullTo_step M k
      have hpre0 : Hid (M.fullTo (8 * (k + 1)) <+: M.full) := fullTo_pre M (by omega)
      generalize M.w k = wd at *
      have hfl := fullN_lt wd
      gi_wp2_with (refine ⟨trivial, ?_⟩; gi_at_call 66; refine (callsIn_wide.2 (full_any wd _ hwl)).mono ?_; rintro e X ⟨rfl, rfl⟩)
      gi_loopw [6] (fun p wr => ∃ (q : Nat) (pre : List Nat), p = .int .u8 (q : Nat) ∧ q < 256 ∧ Hid (M.fullTo (8 * (k + 1)) = pre ++ (slotsL q).map (8 * k + ·)) ∧ W.heap.size ≤ wr.heap.size ∧ Keeps 0 N W wr ∧ J W.heap.size pre wr) (fun p _ => (slotsL (intOf p).toNat).length)
      case atStart => exact ⟨_, _, rfl, hfl, hstep, hz, hkp, hJk⟩
      case round =>
        obtain ⟨q, pre, rfl, hq, hp2, hz2, hkp2, hJp⟩ := hrel
        clear hstep hJk kw
        by_cases h0q : q = 0
        · subst h0q
          have hpe : Hid (M.fullTo (8 * (k + 1)) = pre) := by
            have := hp2.out
            rw [slots_zero, List.map_nil, List.append_nil] at this
            exact this
          gi_wp2
          go_roundw
          case rel => exact ⟨k + 1, by omega, by simp, hz2, hkp2, by rw [hpe.out]; exact hJp⟩
          case measure => simp only [intOf]; omega
        · have hst := slots_step ⟨q, hq⟩ h0q
          dsimp only at hst
          have hp3 : Hid (M.fullTo (8 * (k + 1)) = (pre ++ [8 * k + firstN q]) ++ (slotsL (nextN q)).map (8 * k + ·)) := by
            show _ = _
            rw [hp2.out, hst, List.map_cons, List.append_assoc]
            rfl
          have hpre2 : pre ++ [8 * k + firstN q] <+: M.full := by
            refine List.IsPrefix.trans ?_ hpre0.out
            rw [hp3.out]
            exact List.prefix_append _ _
          have hf8 : firstN q < 8 := by
            have : firstN q ∈ slotsL q := by rw [hst]; exact List.mem_cons_self
            exact List.mem_range.1 (List.mem_filter.1 this).1
          have hn8 := nextN_lt q hq
          have hlen : Hid ((slotsL (nextN q)).length < (slotsL q).length) := by
            show _ < _
            rw [hst]; simp
          have hf := first_any q wr (hTW.keeps hkp2 (by omega)) hq
          have hnx := fun W => next_any q W hq
          clear hst hp2
          generalize firstN q = f at *
          obtain ⟨fn, tmps, assign, body, hy, hR⟩ := YieldAt.wide (m' := 2) (hY W.heap.size pre (8 * k + f) wr (Nat.le_refl _) hz2 hpre2 hJp)
          rw [show ((8 * k + f : Nat) : Int) = 8 * (k : Int) + (f : Int) by omega] at hy
          gi_wp2_with (refine ⟨trivial, ?_⟩; gi_at_call 56; refine (callsIn_wide.2 hf).mono ?_; rintro e X ⟨rfl, rfl⟩)
          refine hR.mono ?_
          clear hR hy
          rintro e W3 ⟨bb, rfl, hk1, hk2, hb⟩
          have hz3 := hk2.size
          cases bb with
          | true =>
            rw [if_pos rfl] at hb
            gi_wp2_with (refine ⟨trivial, ?_⟩; gi_at_call 55; refine (callsIn_wide.2 (hnx _)).mono ?_; rintro e X3 ⟨rfl, rfl⟩)
            go_roundw
            case rel => exact ⟨nextN q, _, rfl, hn8, hp3, by omega, hkp2.trans hk1, hb⟩
            case measure => exact hlen.out
          | false =>
            rw [if_neg (by simp)] at hb
            gi_wp2
            refine bodyPost_ret (results_none rfl _ _ _) rfl ?_
            exact ⟨⟨_, rfl⟩, W.heap.size, Nat.le_refl _, .inr ⟨_, hpre2, hb⟩⟩
    · obtain rfl : k = M.ws.length := by omega
      gi_wp2
      go_end0
      exact ⟨⟨_, rfl⟩, W.heap.size, Nat.le_refl _, .inl hJk⟩
end Go.Proofs.YtiobfdfmfgjpfaaDoor

/-
  A map's object copied over another's.
-/
namespace Go.Proofs.YtiobfdfmfgjpfaaDoor
open Go.RowKit Go.Shelf

def set6 (w : World) (b : Nat) (a0 a1 a2 a3 a4 a5 : Value) : World :=
  (((((w.setCell ⟨b, 0, none⟩ a0).setCell ⟨b, 1, none⟩ a1).setCell ⟨b, 2, none⟩ a2).setCell ⟨b, 3, none⟩ a3).setCell ⟨b, 4, none⟩ a4).setCell ⟨b, 5, none⟩ a5

theorem set6_other (w : World) (b k : Nat) (a0 a1 a2 a3 a4 a5 : Value) (h : k ≠ b) : (set6 w b a0 a1 a2 a3 a4 a5).heap[k]? = w.heap[k]? := by
  unfold set6
  rw [Below.heap_setCell _ _ _ _ h, Below.heap_setCell _ _ _ _ h, Below.heap_setCell _ _ _ _ h, Below.heap_setCell _ _ _ _ h, Below.heap_setCell _ _ _ _ h, Below.heap_setCell _ _ _ _ h]
theorem set6_same {w : World} {b : Nat} {t : TypeId} {c0 c1 c2 c3 c4 c5 : Value} (a0 a1 a2 a3 a4 a5 : Value) (h : w.heap[b]? = some (.cells #[c0, c1, c2, c3, c4, c5] t (0, 0))) :
    (set6 w b a0 a1 a2 a3 a4 a5).heap[b]? = some (.cells #[a0, a1, a2, a3, a4, a5] t (0, 0)) := by
  unfold set6
  simp [World.setCell, Array.getElem?_modify, h]
theorem But.set6 {S : List Nat} {X Y : World} (h : But S X Y) {b : Nat} (hb : b ∈ S ∨ X.heap.size ≤ b) (a0 a1 a2 a3 a4 a5 : Value) : But S X (set6 Y b a0 a1 a2 a3 a4 a5) :=
  (((((h.setCell hb _).setCell hb _).setCell hb _).setCell hb _).setCell hb _).setCell hb _

theorem Lies.copy {tM tS : TypeId} {w : World} {b b' bw bs : Nat} {M : SM} (h : Lies tM tS w b' bw bs M) {c0 c1 c2 c3 c4 c5 : Value} (hb : w.heap[b]? = some (.cells #[c0, c1, c2, c3, c4, c5] tM (0, 0))) (hne : b ≠ bw ∧ b ≠ bs) (h0 : 0 < b) {cw cs : Nat}
    (e2 : w.cell? ⟨b', 2, none⟩ = some (.slice (some ⟨bw, 0, none⟩) M.ws.length cw)) (e3 : w.cell? ⟨b', 3, none⟩ = some (.slice (some ⟨bs, 0, none⟩) M.ss.length cs)) :
    Lies tM tS (set6 w b (.int .u64 M.k0) (.int .u64 M.k1) (.slice (some ⟨bw, 0, none⟩) M.ws.length cw) (.slice (some ⟨bs, 0, none⟩) M.ss.length cs) (.int .i64 (M.n : Int)) (.int .i64 (M.t : Int))) b bw bs M := by
  obtain ⟨cw', cs', r1, r2, r3⟩ := h.row
  have q2 : w.cell? ⟨b', 2, none⟩ = some (.slice (some ⟨bw, 0, none⟩) M.ws.length cw') := by simp [World.cell?, r1]
  have q3 : w.cell? ⟨b', 3, none⟩ = some (.slice (some ⟨bs, 0, none⟩) M.ss.length cs') := by simp [World.cell?, r1]
  rw [e2] at q2
  rw [e3] at q3
  simp only [Option.some.injEq, Value.slice.injEq, true_and] at q2 q3
  subst q2 q3
  refine ⟨⟨cw, cs, set6_same _ _ _ _ _ _ hb, ownsRow_block r2 (set6_other _ _ _ _ _ _ _ _ _ (Ne.symm hne.1)), ownsRow_block r3 (set6_other _ _ _ _ _ _ _ _ _ (Ne.symm hne.2))⟩, ⟨hne.1, hne.2, h.ne.2.2⟩, ⟨h0, h.pos.2⟩⟩
theorem Lies.obj {tM tS : TypeId} {w : World} {b bw bs : Nat} {M : SM} (h : Lies tM tS w b bw bs M) : ∃ c0 c1 c2 c3 c4 c5, w.heap[b]? = some (.cells #[c0, c1, c2, c3, c4, c5] tM (0, 0)) := by
  obtain ⟨cw', cs', r1, r2, r3⟩ := h.row
  exact ⟨_, _, _, _, _, _, r1⟩
end Go.Proofs.YtiobfdfmfgjpfaaDoor
