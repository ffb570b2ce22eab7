/-
  The walk of corbellaw06.WalkNone.
-/
import Derived.Test.YtiobfdfmfgjpfaaDoorWkLTo
import Derived.Test.YtiobfdfmfgjpfaaDoorWkLTo
namespace Go.Proofs.YtiobfdfmfgjpfaaDoor
open Go.RowKit Go.Shelf

theorem infoP6 : (Tryd.prog.info? 64).map (fun i => (i.zero, i.size, i.bytes)) = some (some (.pointer none), 1, 8) := by kernel_rfl
theorem index_walks (x y z : Value) (W : World) : (Instr.index 66 (.agg #[x, y, z]) (.int .i64 0)).run Tryd.prog W = .ok x W ∧ (Instr.index 66 (.agg #[x, y, z]) (.int .i64 1)).run Tryd.prog W = .ok y W ∧ (Instr.index 66 (.agg #[x, y, z]) (.int .i64 2)).run Tryd.prog W = .ok z W := by
  obtain ⟨i1, hi1, hz1, hs1, hb1⟩ := info_parts infoP6
  refine ⟨?_, ?_, ?_⟩
  all_goals simp [Instr.index, asIntOf, run_underlying Tryd.underlying66, sizeOf, typeInfo, hi1, hs1, part, go_sem]
theorem equal_fn_nil {P : Program} (d : Nat) (t : TypeId) {ps rs : Array TypeId} {va : Bool} (f : Fn) (c lb : Array Value) (W : World) (h : P.underlying t = some (.func ps rs va)) : (Op.equalIn (d + 1) t (.func f c lb) .nilFunc).run P W = .ok false W := by
  simp [Op.equalIn, run_underlying h]
theorem fn_not_nil_i (f : Fn) (c lb : Array Value) (W : World) : (binOp .neq 70 (.func f c lb) .nilFunc).run Tryd.prog W = .ok (.bool true) W := by
  simp [binOp, go_sem]
  show ((Op.equalIn (9999 + 1) 70 (.func f c lb) .nilFunc).run Tryd.prog W).andThen _ = _
  rw [equal_fn_nil 9999 _ f c lb W Tryd.underlying70]
  rfl

set_option maxRecDepth 100000 in
set_option maxHeartbeats 4000000 in
theorem walkNone_any (n : Int) (w : World) (hT : Tab w) (_hn : -9223372036854775808 ≤ n ∧ n ≤ 9223372036854775807) : Calls Tryd.prog 6 #[.int .i64 n] w fun e w' => e = .returned (.bool true) ∧ Below w.heap.size w w' := by
  have hw0 := hT.1
  refine (callsIn_wide (n := 9)).1 ?_
  refine callsIn_of_wp_marks Tryd.func6 rfl trivial ?_ rfl
  simp only [Tryd.ntmps6, List.size_toArray, List.length_cons, List.length_nil, Nat.reduceAdd, Nat.reduceSub, Array.replicate_succ, Array.replicate_zero, List.push_toArray, List.append_toArray, List.nil_append, List.cons_append]
  have hz := wk_new w (.pointer none) (.slice none 0 0) 63 [] (RowT.nil0 _)
  have hB0 : Below w.heap.size w (w.alloc (.cells #[.pointer none, .slice none 0 0] 63)) := (Below.refl _ w).alloc (Nat.le_refl _) _
  have hnil := fn_not_nil_i
  gi_wp2_with (refine ⟨trivial, ?_⟩; gi_at_call 24; refine (callsIn_wide.2 (wnew_none_i _)).mono ?_; rintro e X1 ⟨x, rfl, hx, hx1, hx2, hX⟩)
  replace hz := hz.below hX
  have hB1 := hB0.trans (hX.mono hB0.size)
  clear hX hB0
  have hix := fun W => index_walks (.pointer none) (.pointer (some ⟨w.heap.size, 0, none⟩)) (.pointer (some ⟨x, 0, none⟩)) W
  gi_loopw [15] (fun t wr => ∃ j : Nat, j ≤ 3 ∧ t = .int .i64 (j : Nat) ∧ wr = X1) (fun t _ => 3 - (intOf t).toNat)
  case atStart => exact ⟨0, by omega, rfl, rfl⟩
  case round =>
    obtain ⟨j, hj, rfl, rfl⟩ := hrel
    obtain ⟨i0, i1, i2⟩ := hix wr
    by_cases hlt : j < 3
    · obtain rfl | rfl | rfl : j = 0 ∨ j = 1 ∨ j = 2 := by omega
      · have hno := noWalk_nil wr
        gi_wp2_with (refine ⟨trivial, ?_⟩; first
          | (gi_at_call 25; refine (callsIn_wide.2 (next_none_i _ _ hno)).mono ?_; rintro e Y ⟨rfl, rfl⟩)
          | (gi_at_call 26; refine (callsIn_wide.2 (hno _ (Below.refl _ _))).mono ?_; rintro e Y ⟨rfl, rfl⟩))
        go_roundw
        case rel => exact ⟨1, by omega, rfl, trivial⟩
        case measure => simp only [intOf]; decide
      · have hno := noWalk_end hz
        gi_wp2_with (refine ⟨trivial, ?_⟩; first
          | (gi_at_call 25; refine (callsIn_wide.2 (next_none_i _ _ hno)).mono ?_; rintro e Y ⟨rfl, rfl⟩)
          | (gi_at_call 26; refine (callsIn_wide.2 (hno _ (Below.refl _ _))).mono ?_; rintro e Y ⟨rfl, rfl⟩))
        go_roundw
        case rel => exact ⟨2, by omega, rfl, trivial⟩
        case measure => simp only [intOf]; decide
      · have hno := noWalk_end hx
        gi_wp2_with (refine ⟨trivial, ?_⟩; first
          | (gi_at_call 25; refine (callsIn_wide.2 (next_none_i _ _ hno)).mono ?_; rintro e Y ⟨rfl, rfl⟩)
          | (gi_at_call 26; refine (callsIn_wide.2 (hno _ (Below.refl _ _))).mono ?_; rintro e Y ⟨rfl, rfl⟩))
        go_roundw
        case rel => exact ⟨3, by omega, rfl, trivial⟩
        case measure => simp only [intOf]; decide
    · obtain rfl : j = 3 := by omega
      have qk := Boxed.new wr 3 (.int .i64 0)
      have hBk : Below wr.heap.size wr (wr.alloc (.cells #[.int .i64 0] 3)) := (Below.refl _ _).alloc (Nat.le_refl _) _
      have hzk : (wr.alloc (.cells #[.int .i64 0] 3)).heap.size = wr.heap.size + 1 := by simp
      gi_wp2_with (refine ⟨trivial, ?_⟩; gi_at_call 27; refine (callsIn_wide.2 (all_none_i _)).mono ?_; rintro e X2 ⟨rfl, rfl⟩)
      have qm := Boxed.new (wr.alloc (.cells #[.int .i64 0] 3)) 61 (.pointer none)
      rw [hzk] at qm
      replace qk := qk.alloc (.cells #[.pointer none] 61)
      have hB3 : Below w.heap.size w ((wr.alloc (.cells #[.int .i64 0] 3)).alloc (.cells #[.pointer none] 61)) := (hB1.alloc hB1.size _).alloc (by have := hB1.size; simp; omega) _
      have hz3 : ((wr.alloc (.cells #[.int .i64 0] 3)).alloc (.cells #[.pointer none] 61)).heap.size = wr.heap.size + 2 := by simp
      generalize (wr.alloc (.cells #[.int .i64 0] 3)).alloc (.cells #[.pointer none] 61) = X3 at *
      have hzw := hB1.size
      clear hBk hzk hx hz hix i0 i1 i2 hnil
      refine range_seqV (m := 7) (gf := 50) (fb := #[]) (lb := #[.pointer (some ⟨wr.heap.size + 1, 0, none⟩)]) rfl (enters_of Tryd.func50 (by kernel_rfl) rfl)
        (all1_none_i (wr.heap.size + 1) X3 qm) (by omega) (fun _ => rfl)
        (fun B pre X => Boxed X wr.heap.size 3 (.int .i64 0) ∧ Below w.heap.size w X)
        (fun _ _ _ _ => False)
        ?hI ?hIx ?h0 ?ab ?done ?stop
      case hI =>
        rintro B pre X Y hB ⟨d0, d1⟩ ho
        exact ⟨ho.box d0 (.inl (by omega)), d1.trans (ho.below (by omega) d1.size)⟩
      case hIx => exact fun _ _ _ _ _ _ h _ => h
      case h0 =>
        intro X hX _
        exact ⟨(hX.block _ (by omega)).trans qk, hB3.trans (hX.mono (by omega))⟩
      case stop => exact fun _ _ _ _ _ _ h _ => h.elim
      case ab =>
        apply Exists.intro
        constructor
        · intro l x X K hK
          have hsem := @Oper.semAt_some l
          gi_wp2
          exact hK
        · rintro l B pre p X hB hBX hpre _
          have := hpre.length_le
          simp at this
      case done =>
        rintro B X hB ⟨d0, d1⟩ hD
        have e1 := d0.cell
        have hlv := lives_any X (hT.below d1 hw0)
        gi_wp2_with (refine ⟨trivial, ?_⟩; gi_at_call 10; refine (callsIn_wide.2 hlv).mono ?_; rintro e Y ⟨rfl, hbY⟩)
        have hD2 := (hbY.block X3.heap.size (Array.getElem?_eq_some_iff.1 hD).1).trans hD
        rw [hz3] at hD2
        have dY := d1.trans (hbY.mono d1.size)
        refine ⟨by simp, .inl ⟨_, _, rfl, run_takeDeferred hD2, ?_⟩⟩
        exact ⟨_, results_tmp rfl _ _ _, rfl, dY.trans ((Outside.putObj (B := 0) _ (Nat.le_refl _) hD2 rfl).below (by omega) dY.size)⟩
end Go.Proofs.YtiobfdfmfgjpfaaDoor
