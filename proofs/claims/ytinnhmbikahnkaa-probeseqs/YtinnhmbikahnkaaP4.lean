/-
  Contract: corbellaw04.gather.
-/
import Derived.Test.YtinnhmbikahnkaaP3
import Derived.Test.YtinnhmbikahnkaaIRow
namespace Go.Proofs.Ytinnhmbikahnkaa
open Go.RowKit Go.Shelf

/-- The groups that are gathered: up to a count. -/
def gatL (h g s : Int) : List Int := if 0 ≤ s then (grpL h g).take s.toNat else grpL h g
theorem grp_len (h g : Int) : (grpL h g).length ≤ 1024 := by
  have := end_range g
  unfold grpL
  rw [List.length_map, List.length_range]
  omega

theorem equal_func_nil {P : Program} (d : Nat) (t : TypeId) {ps rs : Array TypeId} {va : Bool} (f : Fn) (c lb : Array Value) (W : World) (h : P.underlying t = some (.func ps rs va)) : (Op.equalIn (d + 1) t (.func f c lb) .nilFunc).run P W = .ok false W := by
  simp [Op.equalIn, run_underlying h]
theorem func_nil (f : Fn) (c lb : Array Value) (W : World) : (binOp .eql 35 (.func f c lb) .nilFunc).run Try.prog W = .ok (.bool false) W := by
  simp [binOp, go_sem]
  show ((Op.equalIn (9999 + 1) 35 (.func f c lb) .nilFunc).run Try.prog W).andThen _ = _
  rw [equal_func_nil 9999 _ f c lb W Try.underlying35]
  rfl

set_option maxRecDepth 100000 in
set_option maxHeartbeats 4000000 in
theorem gather_any (h g s : Int) (hh0 : 0 ≤ h) (hh1 : h < 18446744073709551616) (h1 : -9223372036854775808 ≤ g) (h2 : g < 9223372036854775808) (hs1 : -9223372036854775808 ≤ s) (hs2 : s < 9223372036854775808) (w : World) :
    Calls Try.prog 10 #[.int .u64 h, .int .i64 g, .int .i64 s] w fun e w' => ∃ v, e = .returned v ∧ OwnsI w' w.heap.size v (gatL h g s) ∧ Below w.heap.size w w' := by
  obtain ⟨i0, hi, hz0, hz1, hz2⟩ := info_parts Try.infoInt
  have hlen := grp_len h g
  refine (callsIn_wide (n := 9)).1 ?_
  refine callsIn_of_wp_marks Try.func10 rfl trivial ?_ rfl
  simp only [Try.ntmps10, List.size_toArray, List.length_cons, List.length_nil, Nat.reduceAdd, Nat.reduceSub, Array.replicate_succ, Array.replicate_zero, List.push_toArray, List.append_toArray, List.nil_append, List.cons_append]
  have q0 := Boxed.new w 3 (.int .i64 s)
  have q1 := Boxed.new (w.alloc (.cells #[.int .i64 s] 3)) 23 (.slice none 0 0)
  rw [World.size_alloc] at q1
  replace q0 := q0.alloc (.cells #[.slice none 0 0] 23)
  have hBq : Below w.heap.size w ((w.alloc (.cells #[.int .i64 s] 3)).alloc (.cells #[.slice none 0 0] 23)) := ((Below.refl _ w).alloc (Nat.le_refl _) _).alloc (by simp) _
  have hzq : ((w.alloc (.cells #[.int .i64 s] 3)).alloc (.cells #[.slice none 0 0] 23)).heap.size = w.heap.size + 2 := by simp
  have hnil := func_nil
  generalize hX0 : (w.alloc (.cells #[.int .i64 s] 3)).alloc (.cells #[.slice none 0 0] 23) = X0 at q0 q1 hBq hzq
  gi_wp2_with (refine ⟨trivial, ?_⟩; gi_at_call 18; refine (callsIn_wide.2 (seq_any h g _ h1 h2)).mono ?_; rw [hzq]; rintro e W5 ⟨rfl, hB5, hz5, c0, c1, c2⟩)
  replace q0 := (hB5.block _ (by omega)).trans q0
  replace q1 := (hB5.block _ (by omega)).trans q1
  replace hBq := hBq.trans (hB5.mono (by omega))
  clear hB5 hX0 hzq X0
  refine range_seq (m := 7) (gf := 19) (lb := #[.pointer (some ⟨w.heap.size + 2 + 2, 0, none⟩), .pointer (some ⟨w.heap.size + 2, 0, none⟩), .pointer (some ⟨w.heap.size + 2 + 1, 0, none⟩)]) rfl (enters_of Try.func19 (by kernel_rfl) rfl)
    (seq1_seq (w.heap.size + 2) h g hh0 hh1 h1 h2 W5 (by omega) c0 c1 c2) (by omega) (fun _ => rfl)
    (fun B pre X => (∃ v, Boxed X (w.heap.size + 1) 23 v ∧ OwnsI X B v pre) ∧ Boxed X w.heap.size 3 (.int .i64 s) ∧ Below w.heap.size w X ∧ (0 ≤ s → pre.length ≤ s.toNat))
    (fun B c pre X => c = .exit 0 ∧ 0 ≤ s ∧ pre.length = s.toNat + 1 ∧ (∃ v, Boxed X (w.heap.size + 1) 23 v ∧ OwnsI X B v (pre.take s.toNat)) ∧ Below w.heap.size w X)
    ?hI ?hIx ?h0
    (fun x => { tmps := #[.int .u64 h, .int .i64 g, .int .i64 s, undef, undef, .pointer (some ⟨w.heap.size, 0, none⟩), .slice none 0 0, .pointer (some ⟨w.heap.size + 1, 0, none⟩), .func (.func 19) #[] #[.pointer (some ⟨w.heap.size + 2 + 2, 0, none⟩), .pointer (some ⟨w.heap.size + 2, 0, none⟩), .pointer (some ⟨w.heap.size + 2 + 1, 0, none⟩)], .int .i64 x, .int .u64 h, .int .i64 g, .func (.func 19) #[] #[.pointer (some ⟨w.heap.size + 2 + 2, 0, none⟩), .pointer (some ⟨w.heap.size + 2, 0, none⟩), .pointer (some ⟨w.heap.size + 2 + 1, 0, none⟩)], .func (.func 19) #[] #[.pointer (some ⟨w.heap.size + 2 + 2, 0, none⟩), .pointer (some ⟨w.heap.size + 2, 0, none⟩), .pointer (some ⟨w.heap.size + 2 + 1, 0, none⟩)], .bool false, .func (.func 19) #[] #[.pointer (some ⟨w.heap.size + 2 + 2, 0, none⟩), .pointer (some ⟨w.heap.size + 2, 0, none⟩), .pointer (some ⟨w.heap.size + 2 + 1, 0, none⟩)], .int .i64 x, undef, undef, undef, undef, undef, undef, undef, undef, undef], defers := [] })
    ?assign ?body ?done ?stop
  case hI =>
    rintro B pre X Y hB ⟨⟨v, d0, d1⟩, d2, d3, d4⟩ ho
    exact ⟨⟨v, ho.box d0 (.inl (by omega)), d1.outside ho⟩, ho.box d2 (.inl (by omega)), d3.trans (ho.below (by omega) d3.size), d4⟩
  case hIx =>
    rintro B c pre X Y hB ⟨rfl, d1, d2, ⟨v, d3, d4⟩, d5⟩ ho
    exact ⟨rfl, d1, d2, ⟨v, ho.box d3 (.inl (by omega)), d4.outside ho⟩, d5.trans (ho.below (by omega) d5.size)⟩
  case h0 =>
    intro X hX _
    exact ⟨⟨_, (hX.block _ (by omega)).trans q1, OwnsI.nil _ _⟩, (hX.block _ (by omega)).trans q0, hBq.trans (hX.mono (by omega)), fun _ => Nat.zero_le _⟩
  case assign =>
    intro l x X K hK
    have hsem := @Oper.semAt_some l
    gi_wp2
    simpa using hK
  case body =>
    rintro l B pre x X hB hBX hpre ⟨⟨v, d0, d1⟩, d2, d3, d4⟩
    have hsem := @Oper.semAt_some l
    have hpl := hpre.length_le
    rw [List.length_append, List.length_singleton] at hpl
    have e0 := d0.cell
    have e2 := d2.cell
    obtain ⟨p, c, rfl⟩ : ∃ p c, v = .slice p pre.length c := by
      rcases d1.2 with ⟨rfl, hn⟩ | ⟨gg, cap, cur, rfl, _⟩
      · exact ⟨none, 0, by rw [hn]⟩
      · exact ⟨_, _, rfl⟩
    by_cases hse : (pre.length : Int) = s
    · have hse' : ((pre.length : Int) == s) = true := beq_iff_eq.2 hse
      gi_wp2
      refine ⟨Keeps.refl _ _ _, Keeps.refl _ _ _, rfl, by omega, by rw [List.length_append, List.length_singleton]; omega, ⟨_, d0, ?_⟩, d3⟩
      rw [List.take_left' (by omega)]
      exact d1
    · have hse' : ((pre.length : Int) == s) = false := beq_eq_false_iff_ne.2 hse
      gi_wp2_with (gi_at_builtin; refine wpListIn_append_own _ rfl _ _ 23 rfl B 3 i0 (.int .i64 0) 1 8 Try.underlying23 hi hz0 hz1 hz2 rfl (by decide) _ _ _ rfl (World.ownsRow.alloc d1 _) ⟨X.heap.size, 0, none⟩ 1 1 [.int .i64 x] rfl rfl (cell_one_new _ _ _) (by simp [Value.oneCell']) (by unfold maxLen; omega) (by omega) (by simp; omega) ?_; intro v' w1 hown' hgrow _; obtain ⟨g', cap', rfl⟩ := ownsRow_succ hown'; obtain ⟨hv1, hv2, hr2, hb2, hk2⟩ := boxed_append d0 (by decide) d1 hBX hown' hgrow; have hc1 := hv1.cell; have hf1 := hv1.frozen)
      have kk := hk2 w.heap.size (w.heap.size + 1) (by omega) (by omega)
      refine ⟨hk2 _ _ (by omega) (by omega), hk2 _ _ (Nat.le_refl _) (by omega), ⟨_, hv2, ?_⟩, kk.box d2 (Nat.le_refl _) (by omega), d3.trans (hb2 _ (by omega) (by omega)), fun h0 => ?_⟩
      · unfold OwnsI
        rw [List.length_append, List.length_singleton, List.map_append]
        exact hr2
      · rw [List.length_append, List.length_singleton]
        have := d4 h0
        omega
  case done =>
    rintro B X hB ⟨⟨v, d0, d1⟩, d2, d3, d4⟩ hD
    have e0 := d0.cell
    gi_wp2
    refine ⟨by simp, .inl ⟨_, _, rfl, run_takeDeferred hD, ?_⟩⟩
    refine ⟨_, results_tmp rfl _ _ _, v, rfl, ?_, d3.trans ((Outside.putObj (B := 0) _ (Nat.le_refl _) hD rfl).below (by omega) d3.size)⟩
    have e1 : gatL h g s = grpL h g := by
      unfold gatL
      split
      · exact List.take_of_length_le (d4 (by assumption))
      · rfl
    rw [e1]
    exact OwnsI.mono (ownsRow_putObj d1 _ hD rfl) (by omega)
  case stop =>
    rintro B c pre X hB hpre ⟨rfl, d1, d2, ⟨v, d3, d4⟩, d5⟩ hD
    have e0 := d3.cell
    gi_wp2
    refine ⟨by simp, .inl ⟨_, _, rfl, run_takeDeferred hD, ?_⟩⟩
    refine ⟨_, results_tmp rfl _ _ _, v, rfl, ?_, d5.trans ((Outside.putObj (B := 0) _ (Nat.le_refl _) hD rfl).below (by omega) d5.size)⟩
    have e1 : gatL h g s = pre.take s.toNat := by
      unfold gatL
      rw [if_pos d1, List.prefix_iff_eq_take.1 hpre, List.take_take, Nat.min_eq_left (by omega)]
    rw [e1]
    exact OwnsI.mono (ownsRow_putObj d4 _ hD rfl) (by omega)
end Go.Proofs.Ytinnhmbikahnkaa
