import Derived.Test.YthlghokgknkpaaaGreatDoorSwEsTo
import Derived.Test.YthlghokgknkpaaaGreatDoorSwBTo
import Derived.Test.YthlghokgknkpaaaGreatDoorTriTo
/-
  Contracts: New[string]; Map[string].full, as an iterator that tells the places of all keys.
-/
namespace Go.Proofs.YthlghokgknkpaaaGreatDoor
open Go.RowKit Go.Shelf

set_option maxHeartbeats 1000000 in
theorem new_nil_s (k0 k1 hint : Int) (w : World) (h1 : -9223372036854775808 ≤ hint) (h2 : hint < 9223372036854775808) (hn : needI hint = 0) :
    Calls Tryz.prog 6 #[.agg #[.int .u64 k0, .int .u64 k1], .int .i64 hint] w fun e w' => e = .returned (.pointer none) ∧ Below w.heap.size w w' := by
  have hb : Below w.heap.size w (w.alloc (.cells #[.int .u64 k0, .int .u64 k1] 24)) := (Below.refl _ _).alloc (Nat.le_refl _) _
  go_enter Tryz.func6, Tryz.ntmps6
  go_wp2_with (go_at_call 29; refine (need_any _ _ (by omega) (by omega)).mono ?_; rintro e w' ⟨rfl, rfl⟩; rw [hn])
  go_ret
  exact ⟨rfl, hb⟩

set_option maxHeartbeats 1000000 in
theorem new_any_s (k0 k1 hint : Int) (w : World) (h1 : -9223372036854775808 ≤ hint) (h2 : hint < 9223372036854775808) (hn : needI hint ≠ 0) :
    Calls Tryz.prog 6 #[.agg #[.int .u64 k0, .int .u64 k1], .int .i64 hint] w fun e w' => ∃ b bw bs, e = .returned (.pointer (some ⟨b, 0, none⟩)) ∧
      Lies 74 71 w' b bw bs (SM.empty k0 k1 (.string ⟨#[]⟩) (needI hint).toNat) ∧ w.heap.size ≤ b ∧ w.heap.size ≤ bw ∧ w.heap.size ≤ bs ∧ Below w.heap.size w w' := by
  have hg := (need_good hint).resolve_left hn
  have hneed := fun W : World => need_any hint W h1 h2
  have hr := good_range hg
  obtain ⟨g, hgg⟩ : ∃ g : Nat, needI hint = (g : Int) := ⟨(needI hint).toNat, by omega⟩
  rw [hgg] at hg hn hr hneed ⊢
  rw [Int.toNat_natCast]
  have hb : Below w.heap.size w (w.alloc (.cells #[.int .u64 k0, .int .u64 k1] 24)) := (Below.refl _ _).alloc (Nat.le_refl _) _
  clear hgg
  go_enter Tryz.func6, Tryz.ntmps6
  go_wp2_with (go_at_call 29; refine (hneed _).mono ?_; rintro e w' ⟨rfl, rfl⟩)
  refine (empty_any_s k0 k1 g hg _ (by simp)).mono ?_
  rintro e W1 ⟨b, bw, bs, rfl, hl, g1, g2, g3, hb1⟩
  rw [World.size_alloc] at g1 g2 g3
  have hbb := hb.trans (hb1.mono (by simp))
  clear hb1 hb
  go_wp2
  go_ret
  exact ⟨b, bw, bs, rfl, hl, by omega, by omega, by omega, hbb⟩

set_option maxRecDepth 100000 in
set_option maxHeartbeats 4000000 in
theorem full_seq_s (b bw bs N : Nat) (M : SM) (w : World) (hT : Tab w) (h : Lies 74 71 w b bw bs M) (hF : M.Fit) (hN : b < N ∧ bw < N ∧ bs < N) :
    SeqV Tryz.prog 69 #[.pointer (some ⟨b, 0, none⟩)] #[] (fun x : Nat => #[.int .i64 (x : Nat)]) 0 N M.full w := by
  intro l J Jx W hK hJ hJx hY h0
  have hr := good_range hF.good
  have hW := h.keeps hK hN
  have hTW := hT.keeps hK (by omega)
  obtain ⟨cw, cs, _, _, c2, _, _, _, hcw, _⟩ := hW.cells
  refine (callsIn_wide (n := 3)).1 ?_
  refine callsIn_of_wp Tryz.func69 rfl trivial ?_ rfl
  simp only [Tryz.ntmps69, List.size_toArray, List.length_cons, List.length_nil, Nat.reduceAdd, Nat.reduceSub, Array.replicate_succ, Array.replicate_zero, List.push_toArray, List.append_toArray, List.nil_append, List.cons_append]
  gi_wp2
  gi_loopw [12] (fun p wr => ∃ k : Nat, k ≤ M.ws.length ∧ p = .int .i64 (k : Nat) ∧ W.heap.size ≤ wr.heap.size ∧ Keeps 0 N W wr ∧ J W.heap.size (M.fullTo (8 * k)) wr) (fun p _ => M.ws.length - (intOf p).toNat)
  case atStart => exact ⟨0, by omega, rfl, Nat.le_refl _, Keeps.refl _ _ _, h0 W (Below.refl _ _)⟩
  case round =>
    obtain ⟨k, hk, rfl, hz, hkp, hJk⟩ := hrel
    by_cases hlt : k < M.ws.length
    · have hR := hW.keeps hkp hN
      have kw := hR.word k hlt
      have hwl := hF.words k hlt
      have hstep : Hid (M.fullTo (8 * (k + 1)) = M.fullTo (8 * k) ++ (slotsL (fullN (M.w k))).map (8 * k + ·)) := fullTo_step M k
      have hpre0 : Hid (M.fullTo (8 * (k + 1)) <+: M.full) := fullTo_pre M (by omega)
      generalize M.w k = wd at *
      have hfl := fullN_lt wd
      gi_wp2_with (refine ⟨trivial, ?_⟩; gi_at_call 104; refine (callsIn_wide.2 (full_any wd _ hwl)).mono ?_; rintro e X ⟨rfl, rfl⟩)
      gi_loopw [6] (fun p wr => ∃ (q : Nat) (pre : List Nat), p = .int .u8 (q : Nat) ∧ q < 256 ∧ Hid (M.fullTo (8 * (k + 1)) = pre ++ (slotsL q).map (8 * k + ·)) ∧ W.heap.size ≤ wr.heap.size ∧ Keeps 0 N W wr ∧ J W.heap.size pre wr) (fun p _ => (slotsL (intOf p).toNat).length)
      case atStart => exact ⟨_, _, rfl, hfl, hstep, hz, hkp, hJk⟩
      case round =>
        obtain ⟨q, pre, rfl, hq, hp2, hz2, hkp2, hJp⟩ := hrel
        clear hstep hJk kw
        by_cases h0q : q = 0
        · subst h0q
          have hpe : Hid (M.fullTo (8 * (k + 1)) = pre) := by
            have := hp2.out
            rw [slots_zero, List.map_nil, List.append_nil] at this
            exact this
          gi_wp2
          go_roundw
          case rel => exact ⟨k + 1, by omega, by simp, hz2, hkp2, by rw [hpe.out]; exact hJp⟩
          case measure => simp only [intOf]; omega
        · have hst := slots_step ⟨q, hq⟩ h0q
          dsimp only at hst
          have hp3 : Hid (M.fullTo (8 * (k + 1)) = (pre ++ [8 * k + firstN q]) ++ (slotsL (nextN q)).map (8 * k + ·)) := by
            show _ = _
            rw [hp2.out, hst, List.map_cons, List.append_assoc]
            rfl
          have hpre2 : pre ++ [8 * k + firstN q] <+: M.full := by
            refine List.IsPrefix.trans ?_ hpre0.out
            rw [hp3.out]
            exact List.prefix_append _ _
          have hf8 : firstN q < 8 := by
            have : firstN q ∈ slotsL q := by rw [hst]; exact List.mem_cons_self
            exact List.mem_range.1 (List.mem_filter.1 this).1
          have hn8 := nextN_lt q hq
          have hlen : Hid ((slotsL (nextN q)).length < (slotsL q).length) := by
            show _ < _
            rw [hst]; simp
          have hf := first_any q wr (hTW.keeps hkp2 (by omega)) hq
          have hnx := fun W => next_any q W hq
          clear hst hp2
          generalize firstN q = f at *
          obtain ⟨fn, tmps, assign, body, hy, hR⟩ := YieldAt.wide (m' := 2) (hY W.heap.size pre (8 * k + f) wr (Nat.le_refl _) hz2 hpre2 hJp)
          rw [show ((8 * k + f : Nat) : Int) = 8 * (k : Int) + (f : Int) by omega] at hy
          gi_wp2_with (refine ⟨trivial, ?_⟩; gi_at_call 68; refine (callsIn_wide.2 hf).mono ?_; rintro e X ⟨rfl, rfl⟩)
          refine hR.mono ?_
          clear hR hy
          rintro e W3 ⟨bb, rfl, hk1, hk2, hb⟩
          have hz3 := hk2.size
          cases bb with
          | true =>
            rw [if_pos rfl] at hb
            gi_wp2_with (refine ⟨trivial, ?_⟩; gi_at_call 67; refine (callsIn_wide.2 (hnx _)).mono ?_; rintro e X3 ⟨rfl, rfl⟩)
            go_roundw
            case rel => exact ⟨nextN q, _, rfl, hn8, hp3, by omega, hkp2.trans hk1, hb⟩
            case measure => exact hlen.out
          | false =>
            rw [if_neg (by simp)] at hb
            gi_wp2
            refine bodyPost_ret (results_none rfl _ _ _) rfl ?_
            exact ⟨⟨_, rfl⟩, W.heap.size, Nat.le_refl _, .inr ⟨_, hpre2, hb⟩⟩
    · obtain rfl : k = M.ws.length := by omega
      gi_wp2
      go_end0
      exact ⟨⟨_, rfl⟩, W.heap.size, Nat.le_refl _, .inl hJk⟩
end Go.Proofs.YthlghokgknkpaaaGreatDoor

/-
  A map's object copied over another's.
-/
namespace Go.Proofs.YthlghokgknkpaaaGreatDoor
open Go.RowKit Go.Shelf

def set6 (w : World) (b : Nat) (a0 a1 a2 a3 a4 a5 : Value) : World :=
  (((((w.setCell ⟨b, 0, none⟩ a0).setCell ⟨b, 1, none⟩ a1).setCell ⟨b, 2, none⟩ a2).setCell ⟨b, 3, none⟩ a3).setCell ⟨b, 4, none⟩ a4).setCell ⟨b, 5, none⟩ a5

theorem set6_other (w : World) (b k : Nat) (a0 a1 a2 a3 a4 a5 : Value) (h : k ≠ b) : (set6 w b a0 a1 a2 a3 a4 a5).heap[k]? = w.heap[k]? := by
  unfold set6
  rw [Below.heap_setCell _ _ _ _ h, Below.heap_setCell _ _ _ _ h, Below.heap_setCell _ _ _ _ h, Below.heap_setCell _ _ _ _ h, Below.heap_setCell _ _ _ _ h, Below.heap_setCell _ _ _ _ h]
theorem set6_same {w : World} {b : Nat} {t : TypeId} {c0 c1 c2 c3 c4 c5 : Value} (a0 a1 a2 a3 a4 a5 : Value) (h : w.heap[b]? = some (.cells #[c0, c1, c2, c3, c4, c5] t (0, 0))) :
    (set6 w b a0 a1 a2 a3 a4 a5).heap[b]? = some (.cells #[a0, a1, a2, a3, a4, a5] t (0, 0)) := by
  unfold set6
  simp [World.setCell, Array.getElem?_modify, h]
theorem But.set6 {S : List Nat} {X Y : World} (h : But S X Y) {b : Nat} (hb : b ∈ S ∨ X.heap.size ≤ b) (a0 a1 a2 a3 a4 a5 : Value) : But S X (set6 Y b a0 a1 a2 a3 a4 a5) :=
  (((((h.setCell hb _).setCell hb _).setCell hb _).setCell hb _).setCell hb _).setCell hb _

theorem Lies.copy {tM tS : TypeId} {w : World} {b b' bw bs : Nat} {M : SM} (h : Lies tM tS w b' bw bs M) {c0 c1 c2 c3 c4 c5 : Value} (hb : w.heap[b]? = some (.cells #[c0, c1, c2, c3, c4, c5] tM (0, 0))) (hne : b ≠ bw ∧ b ≠ bs) (h0 : 0 < b) {cw cs : Nat}
    (e2 : w.cell? ⟨b', 2, none⟩ = some (.slice (some ⟨bw, 0, none⟩) M.ws.length cw)) (e3 : w.cell? ⟨b', 3, none⟩ = some (.slice (some ⟨bs, 0, none⟩) M.ss.length cs)) :
    Lies tM tS (set6 w b (.int .u64 M.k0) (.int .u64 M.k1) (.slice (some ⟨bw, 0, none⟩) M.ws.length cw) (.slice (some ⟨bs, 0, none⟩) M.ss.length cs) (.int .i64 (M.n : Int)) (.int .i64 (M.t : Int))) b bw bs M := by
  obtain ⟨cw', cs', r1, r2, r3⟩ := h.row
  have q2 : w.cell? ⟨b', 2, none⟩ = some (.slice (some ⟨bw, 0, none⟩) M.ws.length cw') := by simp [World.cell?, r1]
  have q3 : w.cell? ⟨b', 3, none⟩ = some (.slice (some ⟨bs, 0, none⟩) M.ss.length cs') := by simp [World.cell?, r1]
  rw [e2] at q2
  rw [e3] at q3
  simp only [Option.some.injEq, Value.slice.injEq, true_and] at q2 q3
  subst q2 q3
  refine ⟨⟨cw, cs, set6_same _ _ _ _ _ _ hb, ownsRow_block r2 (set6_other _ _ _ _ _ _ _ _ _ (Ne.symm hne.1)), ownsRow_block r3 (set6_other _ _ _ _ _ _ _ _ _ (Ne.symm hne.2))⟩, ⟨hne.1, hne.2, h.ne.2.2⟩, ⟨h0, h.pos.2⟩⟩
theorem Lies.obj {tM tS : TypeId} {w : World} {b bw bs : Nat} {M : SM} (h : Lies tM tS w b bw bs M) : ∃ c0 c1 c2 c3 c4 c5, w.heap[b]? = some (.cells #[c0, c1, c2, c3, c4, c5] tM (0, 0)) := by
  obtain ⟨cw', cs', r1, r2, r3⟩ := h.row
  exact ⟨_, _, _, _, _, _, r1⟩
end Go.Proofs.YthlghokgknkpaaaGreatDoor

/-
  Contract: Map[string].rehash.
-/
namespace Go.Proofs.YthlghokgknkpaaaGreatDoor
open Go.RowKit Go.Shelf

theorem empty_at_s (k0 k1 : Int) {x : Int} (g : Nat) (hx : x = g) (hg : isGood (g : Int) = true) (w : World) (h0 : 0 < w.heap.size) :
    Calls Tryz.prog 30 #[.agg #[.int .u64 k0, .int .u64 k1], .int .i64 x] w fun e w' => ∃ b bw bs, e = .returned (.pointer (some ⟨b, 0, none⟩)) ∧
      Lies 74 71 w' b bw bs (SM.empty k0 k1 (.string ⟨#[]⟩) g) ∧ w.heap.size ≤ b ∧ w.heap.size ≤ bw ∧ w.heap.size ≤ bs ∧ Below w.heap.size w w' := by
  subst hx; exact empty_any_s k0 k1 g hg w h0

set_option maxRecDepth 100000 in
set_option maxHeartbeats 4000000 in
theorem rehash_any_s (b bw bs : Nat) (M : SM) (w : World) (hT : Tab w) (h : Lies 74 71 w b bw bs M) (hF : M.Fit) (hV : ∀ p, p < M.ss.length → ∃ x, (M.s p).2 = .string x) (hg : isGood (M.size' : Int) = true) :
    Calls Tryz.prog 36 #[.pointer (some ⟨b, 0, none⟩)] w fun e w' => (∃ u, e = .returned u) ∧ ∃ bw' bs', Lies 74 71 w' b bw' bs' (M.rehash (.string ⟨#[]⟩)) ∧ w.heap.size ≤ bw' ∧ w.heap.size ≤ bs' ∧ But [b] w w' := by
  obtain ⟨cw, cs, c0, c1, c2, c3, c4, c5, hcw, hcs⟩ := h.cells
  have hr := good_range hF.good
  have hlt := h.lt
  have hfew := hF.few
  have hw0 := hT.1
  refine (callsIn_wide (n := 9)).1 ?_
  refine callsIn_of_wp_marks Tryz.func36 rfl trivial ?_ rfl
  simp only [Tryz.ntmps36, List.size_toArray, List.length_cons, List.length_nil, Nat.reduceAdd, Nat.reduceSub, Array.replicate_succ, Array.replicate_zero, List.push_toArray, List.append_toArray, List.nil_append, List.cons_append]
  have q0 := Boxed.new w 28 (.pointer (some ⟨b, 0, none⟩))
  have hBq : Below w.heap.size w (w.alloc (.cells #[.pointer (some ⟨b, 0, none⟩)] 28)) := (Below.refl _ w).alloc (Nat.le_refl _) _
  have hzq : (w.alloc (.cells #[.pointer (some ⟨b, 0, none⟩)] 28)).heap.size = w.heap.size + 1 := by simp
  generalize hX0 : w.alloc (.cells #[.pointer (some ⟨b, 0, none⟩)] 28) = X0 at q0 hBq hzq
  have e0 := q0.cell
  have k0 := (hBq.cell (p := ⟨b, 0, none⟩) hlt.1).trans c0
  have k1 := (hBq.cell (p := ⟨b, 1, none⟩) hlt.1).trans c1
  have k2 := (hBq.cell (p := ⟨b, 2, none⟩) hlt.1).trans c2
  have k4 := (hBq.cell (p := ⟨b, 4, none⟩) hlt.1).trans c4
  have k5 := (hBq.cell (p := ⟨b, 5, none⟩) hlt.1).trans c5
  have hemp : Hid (∀ x : Int, x = (M.size' : Nat) → Calls Tryz.prog 30 #[.agg #[.int .u64 M.k0, .int .u64 M.k1], .int .i64 x] X0 fun e w' => ∃ b bw bs, e = .returned (.pointer (some ⟨b, 0, none⟩)) ∧
      Lies 74 71 w' b bw bs (SM.empty M.k0 M.k1 (.string ⟨#[]⟩) M.size') ∧ X0.heap.size ≤ b ∧ X0.heap.size ≤ bw ∧ X0.heap.size ≤ bs ∧ Below X0.heap.size X0 w') := fun x hx => empty_at_s M.k0 M.k1 M.size' hx hg X0 (by omega)
  have hmf : ∀ (fn : Fn) (first cap : Array Value) (w : World), (Instr.makeFunc fn first cap).run Tryz.prog w = .ok (.func fn first cap) w := fun _ _ _ _ => rfl
  have hTX : ∀ X, Below w.heap.size w X → Tab X := fun X hX => hT.below hX hw0
  have hcase : (M.t = 0 ∧ Hid ((M.ws.length : Int) * 2 = (M.size' : Nat))) ∨ (M.t ≠ 0 ∧ ¬ 2 * (M.n : Int) ≤ 7 * (M.ws.length : Int) ∧ Hid ((M.ws.length : Int) * 2 = (M.size' : Nat))) ∨ (M.t ≠ 0 ∧ 2 * (M.n : Int) ≤ 7 * (M.ws.length : Int) ∧ Hid ((M.ws.length : Int) = (M.size' : Nat))) := by
    by_cases ht : M.t = 0
    · refine .inl ⟨ht, ?_⟩
      show _ = _
      unfold SM.size'
      rw [if_pos (.inl ht)]
      omega
    · by_cases hd : 7 * M.ws.length < 2 * M.n
      · refine .inr (.inl ⟨ht, by omega, ?_⟩)
        show _ = _
        unfold SM.size'
        rw [if_pos (.inr hd)]
        omega
      · refine .inr (.inr ⟨ht, by omega, ?_⟩)
        show _ = _
        unfold SM.size'
        rw [if_neg (by omega)]
  rcases hcase with ⟨ht, hs⟩ | ⟨ht, hd, hs⟩ | ⟨ht, hd, hs⟩
  all_goals
    gi_wp2
    refine ⟨trivial, ?_⟩
    refine (callsIn_wide.2 (hemp.out _ hs.out)).mono ?_
    rintro e W1 ⟨b', bw', bs', rfl, hl', g1, g2, g3, hB1⟩
    have hz1 : w.heap.size + 1 ≤ W1.heap.size := by have := hB1.size; omega
    replace q0 : Boxed W1 _ _ _ := (hB1.block _ (by omega)).trans q0
    replace hB1 : Below w.heap.size w W1 := hBq.trans (hB1.mono (by omega))
    clear e0 k0 k1 k2 k4 k5 hX0 hBq hemp hs ht
    have hlt' := hl'.lt
    have q1 := Boxed.new W1 28 (.pointer (some ⟨b', 0, none⟩))
    replace q0 := q0.alloc (.cells #[.pointer (some ⟨b', 0, none⟩)] 28)
    replace hl' := hl'.below ((Below.refl W1.heap.size W1).alloc (Nat.le_refl _) (.cells #[.pointer (some ⟨b', 0, none⟩)] 28)) (Nat.le_refl _)
    have hB2 : Below w.heap.size w (W1.alloc (.cells #[.pointer (some ⟨b', 0, none⟩)] 28)) := hB1.alloc (by omega) _
    have hz2 : (W1.alloc (.cells #[.pointer (some ⟨b', 0, none⟩)] 28)).heap.size = W1.heap.size + 1 := by simp
    generalize hX2 : W1.alloc (.cells #[.pointer (some ⟨b', 0, none⟩)] 28) = X2 at q0 q1 hl' hB2 hz2
    have e0 := q0.cell
    gi_wp2
    generalize W1.heap.size = b2 at *
    refine range_seqV (m := 7) (gf := 69) (fb := #[.pointer (some ⟨b, 0, none⟩)]) (lb := #[]) rfl (enters_of Tryz.func69 (by kernel_rfl) rfl)
      (full_seq_s b bw bs w.heap.size M X2 (hTX _ hB2) (h.below hB2 (Nat.le_refl _)) hF hlt) (by omega) (fun _ => rfl)
      (fun B pre X => Boxed X w.heap.size 28 (.pointer (some ⟨b, 0, none⟩)) ∧ Boxed X b2 28 (.pointer (some ⟨b', 0, none⟩)) ∧ Lies 74 71 X b' bw' bs' (M.re (.string ⟨#[]⟩) pre) ∧ Below w.heap.size w X)
      (fun _ _ _ _ => False)
      ?hI ?hIx ?h0 ?ab ?done ?stop
    case hI =>
      rintro B pre X Y hB ⟨d0, d1, d2, d3⟩ ho
      exact ⟨ho.box d0 (.inl (by omega)), ho.box d1 (.inl (by omega)), d2.outside ho (by omega), d3.trans (ho.below (by omega) d3.size)⟩
    case hIx => exact fun _ _ _ _ _ _ h _ => h
    case h0 =>
      intro X hX _
      exact ⟨(hX.block _ (by omega)).trans q0, (hX.block _ (by omega)).trans q1, hl'.below hX (Nat.le_refl _), hB2.trans (hX.mono (by omega))⟩
    case stop => exact fun _ _ _ _ _ _ h _ => h.elim
    case ab =>
      apply Exists.intro
      constructor
      · intro l x X K hK
        have hsem := @Oper.semAt_some l
        gi_wp2
        exact hK
      · rintro l B pre p X hB hBX hpre ⟨d0, d1, d2, d3⟩
        have hsem := @Oper.semAt_some l
        have hpm : p ∈ M.full := hpre.subset (List.mem_append_right _ (List.mem_singleton.2 rfl))
        have hps := full_lt hF p hpm
        have hL := h.below d3 (Nat.le_refl _)
        obtain ⟨dw, ds, _, _, _, k3, _, _, _, hds⟩ := hL.cells
        have kk := hL.key p hps
        have kv := hL.val p hps
        obtain ⟨x, hx⟩ := hV p hps
        have hsz := hF.texts p hps
        have hre := re_fit hF hg (.string ⟨#[]⟩) pre (fun q hq => full_lt hF q (hpre.subset (List.mem_append_left _ hq))) (by have h1 := hpre.length_le; have h2 := full_len hF; rw [List.length_append] at h1; omega)
        have hsn : Hid (M.re (.string ⟨#[]⟩) (pre ++ [p]) = (M.re (.string ⟨#[]⟩) pre).place (M.s p).1 (.string x)) := by
          show _ = _
          rw [re_snoc, hx]
        rw [hx] at kv
        clear hx hpm
        generalize (M.s p).1 = key at *
        have hpl := fun m : Nat => place_any_s b' bw' bs' (M.re (.string ⟨#[]⟩) pre) key x (X.drewN m) ((hTX X d3)) (d2.drewN m) hre.1 hsz (fun g i hg hi he => absurd he (hre.2.1 g i hg hi))
        generalize M.re (.string ⟨#[]⟩) pre = Mp at *
        clear hre hpre
        have e0 := d0.cell
        have e1 := d1.cell
        have hp1 : (p : Int) < M.ss.length := by omega
        gi_wp2
        refine wpIn_round_last (by kernel_rfl) (by kernel_rfl) ?_
        dsimp only [initL, lastL]
        repeat (go_big_quiet_step (fail))
        refine wpQuiet_nil ?_
        rintro _ ⟨nq, rfl⟩
        gi_wp2_with (refine ⟨trivial, ?_⟩; gi_at_call 37; refine (CallsIn.inRound l (callsIn_wide.2 (hpl nq))).mono ?_; rintro e Y ⟨⟨u, rfl⟩, hY1, hY2⟩)
        have hk : ∀ A C, (∀ k ∈ [b', bw', bs'], k < A ∨ C ≤ k) → C ≤ X.heap.size → Keeps A C X Y := fun A C h1 h2 => by
          have := hY2.keeps h1 h2
          exact ⟨this.size, this.same⟩
        have hsm : ∀ k, k < X.heap.size → k ∉ [b', bw', bs'] → Y.heap[k]? = X.heap[k]? := fun k h1 h2 => hY2.block k h1 h2
        have hXs := d3.size
        refine ⟨hk _ _ (by simp; omega) (by omega), hk _ _ (by simp; omega) (by omega), (hsm _ (by omega) (by simp; omega)).trans d0, (hsm _ (by omega) (by simp; omega)).trans d1, ?_, ?_⟩
        · rw [hsn.out]
          exact hY1
        · have := hY2.below (B := w.heap.size) (by simp; omega) hXs
          exact d3.trans ⟨this.os, this.tape, this.output, this.size, this.block⟩
    case done =>
      rintro B X hB ⟨d0, d1, d2, d3⟩ hD
      have e0 := d0.cell
      have e1 := d1.cell
      obtain ⟨dw, ds, j0, j1, j2, j3, j4, j5, _, _⟩ := d2.cells
      have hL := h.below d3 (Nat.le_refl _)
      obtain ⟨_, _, i0, i1, i2, i3, i4, i5, _, _⟩ := hL.cells
      have fr := hL.free
      obtain ⟨o0, o1, o2, o3, o4, o5, hobj⟩ := hL.obj
      gi_wp2
      refine wpIn_wide_last (by kernel_rfl) (by kernel_rfl) ?_
      dsimp only [initL, lastL]
      repeat (go_big_quiet_step (fail))
      refine wpQuiet_nil ?_
      rintro _ ⟨nq, rfl⟩
      gi_wp2
      have hcp := (d2.drewN nq).copy (b := b) hobj (by omega) h.pos.1 j2 j3
      have hbt : But [b] w _ := (But.of_below (S := [b]) d3 (Nat.le_refl _)).drewN nq |>.set6 (b := b) (.inl (by simp)) (.int .u64 (M.re (.string ⟨#[]⟩) M.full).k0) (.int .u64 (M.re (.string ⟨#[]⟩) M.full).k1) (.slice (some ⟨bw', 0, none⟩) (M.re (.string ⟨#[]⟩) M.full).ws.length dw) (.slice (some ⟨bs', 0, none⟩) (M.re (.string ⟨#[]⟩) M.full).ss.length ds) (.int .i64 ((M.re (.string ⟨#[]⟩) M.full).n : Int)) (.int .i64 ((M.re (.string ⟨#[]⟩) M.full).t : Int))
      have hD' : (set6 (X.drewN nq) b (.int .u64 (M.re (.string ⟨#[]⟩) M.full).k0) (.int .u64 (M.re (.string ⟨#[]⟩) M.full).k1) (.slice (some ⟨bw', 0, none⟩) (M.re (.string ⟨#[]⟩) M.full).ws.length dw) (.slice (some ⟨bs', 0, none⟩) (M.re (.string ⟨#[]⟩) M.full).ss.length ds) (.int .i64 ((M.re (.string ⟨#[]⟩) M.full).n : Int)) (.int .i64 ((M.re (.string ⟨#[]⟩) M.full).t : Int))).heap[X2.heap.size]? = some (.deferred (some [])) :=
        (set6_other _ _ _ _ _ _ _ _ _ (by omega)).trans hD
      refine ⟨by simp, .inl ⟨_, _, rfl, run_takeDeferred hD', ?_⟩⟩
      refine ⟨_, results_none rfl _ _ _, ⟨_, rfl⟩, bw', bs', ?_, by omega, by omega, hbt.putObj (.inr (by omega)) _⟩
      rw [re_full]
      exact hcp.outside (Outside.putObj (B := 0) _ (Nat.le_refl _) hD' rfl) (by omega)
end Go.Proofs.YthlghokgknkpaaaGreatDoor
