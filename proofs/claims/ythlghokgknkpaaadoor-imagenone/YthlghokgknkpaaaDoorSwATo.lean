import Derived.Test.YthlghokgknkpaaaDoorP1To
import Derived.Test.YthlghokgknkpaaaDoorImATo
/-
  Contracts: probe.At and the document's At.
-/
namespace Go.Proofs.YthlghokgknkpaaaDoor
open Go.RowKit

theorem prod_le {i : Int} (h0 : 0 ≤ i) (h1 : i ≤ 1023) : 0 ≤ i * (i + 1) ∧ i * (i + 1) ≤ 1047552 := by
  constructor
  · exact Int.mul_nonneg h0 (by omega)
  · calc i * (i + 1) ≤ 1023 * (i + 1) := Int.mul_le_mul_of_nonneg_right h1 (by omega)
      _ ≤ 1047552 := by omega

theorem at_eq {h i g : Int} (hh : 0 ≤ h) (hg : isGood g = true) (h0 : 0 ≤ i) (h1 : i < g) : atI h i g = (h % g + i * (i + 1) / 2) % g := by
  have hr := good_range hg
  unfold atI
  rw [if_pos ⟨hg, h0, h1⟩]
  unfold atN
  have e1 : ((h.toNat : Nat) : Int) = h := by omega
  have e2 : ((i.toNat : Nat) : Int) = i := by omega
  have e3 : ((g.toNat : Nat) : Int) = g := by omega
  rw [Int.natCast_emod, Int.natCast_add, Int.natCast_emod, Int.natCast_ediv, Int.natCast_mul, Int.natCast_add, e1, e2, e3]
  rfl
theorem at_zero {h i g : Int} (hn : ¬ (isGood g = true ∧ 0 ≤ i ∧ i < g)) : atI h i g = 0 := by unfold atI; rw [if_neg hn]

set_option maxRecDepth 10000 in
set_option maxHeartbeats 1000000 in
theorem at_any (h i g : Int) (w : World) (hh0 : 0 ≤ h) (hh1 : h < 18446744073709551616) (hi1 : -9223372036854775808 ≤ i) (hi2 : i < 9223372036854775808) (h1 : -9223372036854775808 ≤ g) (h2 : g < 9223372036854775808) :
    Calls Tryd.prog 61 #[.int .u64 h, .int .i64 i, .int .i64 g] w fun e w' => e = .returned (.int .i64 (atI h i g)) ∧ w' = w := by
  by_cases hn : isGood g = true ∧ 0 ≤ i ∧ i < g
  · obtain ⟨hg, h0, hlt⟩ := hn
    have hr := good_range hg
    have hp := prod_le h0 (by omega)
    have ha : Hid (atI h i g = (h % g + i * (i + 1) / 2) % g) := at_eq hh0 hg h0 hlt
    have hm0 : 0 ≤ h % g := Int.emod_nonneg _ (by omega)
    have hm1 : h % g < g := Int.emod_lt_of_pos _ (by omega)
    go_enter Tryd.func61, Tryd.ntmps61
    go_wp2_with (go_at_call 34; refine (good_any _ _ (by omega) (by omega)).mono ?_; rintro e w' ⟨rfl, rfl⟩; rw [hg])
    go_ret
    refine ⟨?_, rfl⟩
    rw [ha.out]
    rfl
  · have ha : Hid (atI h i g = 0) := at_zero hn
    by_cases hg : isGood g = true
    · by_cases h0 : 0 ≤ i
      · have hlt : g ≤ i := by
          have : ¬ i < g := fun h' => hn ⟨hg, h0, h'⟩
          omega
        clear hn
        go_enter Tryd.func61, Tryd.ntmps61
        go_wp2_with (go_at_call 34; refine (good_any _ _ (by omega) (by omega)).mono ?_; rintro e w' ⟨rfl, rfl⟩; rw [hg])
        go_ret
        refine ⟨?_, rfl⟩
        rw [ha.out]
        rfl
      · clear hn
        go_enter Tryd.func61, Tryd.ntmps61
        go_wp2_with (go_at_call 34; refine (good_any _ _ (by omega) (by omega)).mono ?_; rintro e w' ⟨rfl, rfl⟩; rw [hg])
        go_ret
        refine ⟨?_, rfl⟩
        rw [ha.out]
        rfl
    · have hg' : isGood g = false := by cases e : isGood g with
        | false => rfl
        | true => exact absurd e hg
      clear hn hg
      go_enter Tryd.func61, Tryd.ntmps61
      go_wp2_with (go_at_call 34; refine (good_any _ _ (by omega) (by omega)).mono ?_; rintro e w' ⟨rfl, rfl⟩; rw [hg'])
      go_ret
      refine ⟨?_, rfl⟩
      rw [ha.out]
      rfl
end Go.Proofs.YthlghokgknkpaaaDoor

/-
  Contracts: probe.steps, probe.Seq and the function that it makes.
-/
namespace Go.Proofs.YthlghokgknkpaaaDoor
open Go.RowKit Go.Shelf

theorem range_pre (k n : Nat) (h : k ≤ n) : List.range k <+: List.range n := by
  have := List.take_prefix k (List.range n)
  rwa [List.take_range, Nat.min_eq_left h] at this
theorem pre_range {n : Nat} {pre : List Nat} (h : pre <+: List.range n) : pre = List.range pre.length ∧ pre.length ≤ n := by
  have hl := h.length_le
  rw [List.length_range] at hl
  refine ⟨?_, hl⟩
  rw [List.prefix_iff_eq_take] at h
  rw [List.take_range, Nat.min_eq_left hl] at h
  exact h
theorem snoc_range {n : Nat} {pre : List Nat} {x : Nat} (h : pre ++ [x] <+: List.range n) : pre = List.range x ∧ x < n := by
  obtain ⟨h1, h2⟩ := pre_range h
  rw [List.length_append, List.length_singleton] at h1 h2
  rw [List.range_succ] at h1
  obtain ⟨h3, h4⟩ := List.append_inj' h1 rfl
  obtain rfl : x = pre.length := by simpa using h4
  exact ⟨h3, by omega⟩

theorem RoundIn.inRound {F : Fence} {n : Nat} {P : Program} {l l' : Nat} {f : FuncId} {tmps : Array Value} {assign body : Code} {w : World} {R : Ending → World → Prop} (h : RoundIn F n P l f tmps assign body w R) :
    RoundIn (F.inRound l') n P l f tmps assign body w R := h

set_option maxRecDepth 100000 in
set_option maxHeartbeats 2000000 in
theorem steps_seq (w : World) : SeqW Tryd.prog 60 #[] (fun x : Nat => #[.int .i64 x]) 0 0 (List.range 1024) w := by
  intro l J Jx W _ hJ hJx hY h0
  refine (callsIn_wide (n := 3)).1 ?_
  refine callsIn_of_wp Tryd.func60 rfl trivial ?_ rfl
  simp only [Tryd.ntmps60, List.size_toArray, List.length_cons, List.length_nil, Nat.reduceAdd, Nat.reduceSub, Array.replicate_succ, Array.replicate_zero, List.push_toArray, List.append_toArray, List.nil_append, List.cons_append]
  gi_wp2
  gi_loopw [3] (fun p wr => ∃ k : Nat, k ≤ 1024 ∧ p = .int .i64 k ∧ W.heap.size ≤ wr.heap.size ∧ J W.heap.size (List.range k) wr) (fun p _ => 1024 - (intOf p).toNat)
  case atStart => exact ⟨0, by omega, rfl, Nat.le_refl _, h0 W (Below.refl _ _)⟩
  case round =>
    obtain ⟨k, hk, rfl, hz, hJk⟩ := hrel
    by_cases hlt : k < 1024
    · have hpre : List.range k ++ [k] <+: List.range 1024 := by rw [← List.range_succ]; exact range_pre _ _ hlt
      obtain ⟨fn, tmps, assign, body, hy, hR⟩ := YieldAt.wide (m' := 2) (hY W.heap.size (List.range k) k wr (Nat.le_refl _) hz hpre hJk)
      gi_wp2
      refine hR.mono ?_
      clear hR hy
      rintro e W3 ⟨b, rfl, _, k2, hb⟩
      have hz3 := k2.size
      rw [← List.range_succ] at hb
      cases b with
      | true =>
        gi_wp2
        go_roundw
        case rel => exact ⟨k + 1, by omega, rfl, by omega, hb⟩
        case measure => simp only [intOf]; omega
      | false =>
        gi_wp2
        refine bodyPost_ret (results_none rfl _ _ _) rfl ?_
        exact ⟨⟨_, rfl⟩, W.heap.size, Nat.le_refl _, .inr ⟨List.range (k + 1), range_pre _ _ hlt, hb⟩⟩
    · obtain rfl : k = 1024 := by omega
      gi_wp2
      go_end0
      exact ⟨⟨_, rfl⟩, W.heap.size, Nat.le_refl _, .inl hJk⟩

/-- How many groups are told. -/
def endI (g : Int) : Int := if isGood g = true then g else 0
theorem end_range (g : Int) : 0 ≤ endI g ∧ endI g ≤ 1024 := by
  unfold endI
  split
  · have := good_range (by assumption); omega
  · omega
/-- The groups of a hash, in their order. -/
def grpL (h g : Int) : List Int := (List.range (endI g).toNat).map fun i : Nat => atI h i g

theorem three_boxes (w : World) (u v x : Value) (s t r : TypeId) : Below w.heap.size w (((w.alloc (.cells #[u] s)).alloc (.cells #[v] t)).alloc (.cells #[x] r)) ∧
    (((w.alloc (.cells #[u] s)).alloc (.cells #[v] t)).alloc (.cells #[x] r)).heap.size = w.heap.size + 3 ∧ Boxed (((w.alloc (.cells #[u] s)).alloc (.cells #[v] t)).alloc (.cells #[x] r)) w.heap.size s u ∧
    Boxed (((w.alloc (.cells #[u] s)).alloc (.cells #[v] t)).alloc (.cells #[x] r)) (w.heap.size + 1) t v ∧ Boxed (((w.alloc (.cells #[u] s)).alloc (.cells #[v] t)).alloc (.cells #[x] r)) (w.heap.size + 2) r x := by
  have b1 := Boxed.new (w.alloc (.cells #[u] s)) t v
  have b2 := Boxed.new ((w.alloc (.cells #[u] s)).alloc (.cells #[v] t)) r x
  rw [World.size_alloc] at b1
  rw [World.size_alloc, World.size_alloc] at b2
  exact ⟨(((Below.refl _ w).alloc (Nat.le_refl _) _).alloc (by simp) _).alloc (by simp; omega) _, by simp, ((Boxed.new w s u).alloc _).alloc _, b1.alloc _, b2⟩

set_option maxRecDepth 10000 in
set_option maxHeartbeats 1000000 in
theorem seq_any (h g : Int) (w : World) (h1 : -9223372036854775808 ≤ g) (h2 : g < 9223372036854775808) :
    Calls Tryd.prog 38 #[.int .u64 h, .int .i64 g] w fun e w' => e = .returned (.func (.func 59) #[] #[.pointer (some ⟨w.heap.size + 2, 0, none⟩), .pointer (some ⟨w.heap.size, 0, none⟩), .pointer (some ⟨w.heap.size + 1, 0, none⟩)]) ∧
      Below w.heap.size w w' ∧ w'.heap.size = w.heap.size + 3 ∧ Boxed w' w.heap.size 22 (.int .u64 h) ∧ Boxed w' (w.heap.size + 1) 3 (.int .i64 g) ∧ Boxed w' (w.heap.size + 2) 3 (.int .i64 (endI g)) := by
  have hb := three_boxes w (.int .u64 h) (.int .i64 g) (.int .i64 (endI g)) 22 3 3
  cases hg : isGood g with
  | true =>
    have he : endI g = g := by unfold endI; rw [if_pos hg]
    rw [he] at hb ⊢
    clear he
    go_enter Tryd.func38, Tryd.ntmps38
    go_wp2_with (go_at_call 34; refine (good_any _ _ (by omega) (by omega)).mono ?_; rintro e w' ⟨rfl, rfl⟩; rw [hg])
    go_ret
    exact ⟨rfl, hb⟩
  | false =>
    have he : endI g = 0 := by unfold endI; rw [if_neg (by simp [hg])]
    rw [he] at hb ⊢
    clear he
    go_enter Tryd.func38, Tryd.ntmps38
    go_wp2_with (go_at_call 34; refine (good_any _ _ (by omega) (by omega)).mono ?_; rintro e w' ⟨rfl, rfl⟩; rw [hg])
    go_ret
    exact ⟨rfl, hb⟩

theorem scope_wide {n : Nat} {P : Program} {c : Code} {Q : Exit → Act → World → Prop} {a : Act} {w : World} (h : c.wpIn Fence.wide n P (Exit.noGoto Q) a w) : (Code.scope c).wpIn Fence.wide n P Q a w :=
  wpIn_wide.2 (wp_scope_straight ((wpIn_wide (n := n)).1 h))

set_option maxRecDepth 100000 in
set_option maxHeartbeats 4000000 in
/-- The function that Seq makes: it ranges over steps, and its rounds call the yield that came in. -/
theorem seq1_seq (b : Nat) (h g : Int) (hh0 : 0 ≤ h) (hh1 : h < 18446744073709551616) (h1 : -9223372036854775808 ≤ g) (h2 : g < 9223372036854775808) (w : World) (hb : b + 3 ≤ w.heap.size)
    (c0 : Boxed w b 22 (.int .u64 h)) (c1 : Boxed w (b + 1) 3 (.int .i64 g)) (c2 : Boxed w (b + 2) 3 (.int .i64 (endI g))) :
    SeqW Tryd.prog 59 #[.pointer (some ⟨b + 2, 0, none⟩), .pointer (some ⟨b, 0, none⟩), .pointer (some ⟨b + 1, 0, none⟩)] (fun x : Int => #[.int .i64 x]) b (b + 3) (grpL h g) w := by
  intro l J Jx W hK hJ hJx hY h0
  have hz := hK.size
  replace c0 := hK.box c0 (by omega) (by omega)
  replace c1 := hK.box c1 (by omega) (by omega)
  replace c2 := hK.box c2 (by omega) (by omega)
  have he := end_range g
  have hmix : Tryd.prog.follows .mixedOrders = true := by kernel_rfl
  obtain ⟨f, hf⟩ : ∃ f : Nat → Int, f = fun i : Nat => atI h i g := ⟨_, rfl⟩
  have hL : Hid (grpL h g = (List.range (endI g).toNat).map f) := by rw [hf]; rfl
  have hfi : ∀ i : Nat, atI h i g = f i := fun i => by rw [hf]
  clear hf
  have hat : ∀ (i : Nat) (X : World), i < 1024 → Calls Tryd.prog 61 #[.int .u64 h, .int .i64 i, .int .i64 g] X fun e w' => e = .returned (.int .i64 (f i)) ∧ w' = X := fun i X hi => by
    have := at_any h i g X hh0 hh1 (by omega) (by omega) h1 h2
    rw [hfi] at this
    exact this
  generalize endI g = E at *
  generalize grpL h g = xs at *
  refine (callsIn_wide (n := 9)).1 ?_
  refine callsIn_of_wp_marks Tryd.func59 rfl trivial ?_ rfl
  simp only [Tryd.ntmps59, List.size_toArray, List.length_cons, List.length_nil, Nat.reduceAdd, Nat.reduceSub, Array.replicate_succ, Array.replicate_zero, List.push_toArray, List.append_toArray, List.nil_append, List.cons_append]
  gi_wp2
  refine scope_wide ?_
  refine wpIn_seq (wpIn_label ?_)
  obtain ⟨W2, hW2⟩ : ∃ W2, W.alloc (.cells #[.func (.yield l) #[] #[]] 72) = W2 := ⟨_, rfl⟩
  have hB2 : Below W.heap.size W W2 := by rw [← hW2]; exact (Below.refl _ W).alloc (Nat.le_refl _) _
  have hz2 : W2.heap.size = W.heap.size + 1 := by rw [← hW2]; simp
  have y2 : Boxed W2 W.heap.size 72 (.func (.yield l) #[] #[]) := by rw [← hW2]; exact Boxed.new _ _ _
  rw [hW2]
  clear hW2
  gi_wp2
  refine range_seq (m := 7) (gf := 60) (lb := #[]) rfl (enters_of Tryd.func60 (by kernel_rfl) rfl) (steps_seq W2) (Nat.zero_le _) (fun _ => rfl)
    (fun B pre X => J B (pre.map f) X ∧ (Boxed X W.heap.size 72 (.func (.yield l) #[] #[]) ∧ Boxed X b 22 (.int .u64 h) ∧ Boxed X (b + 1) 3 (.int .i64 g) ∧ Boxed X (b + 2) 3 (.int .i64 E)) ∧ ∀ y ∈ pre, (y : Int) ≠ E)
    (fun B c pre X => c = .exit 0 ∧ ((∃ q, pre = q ++ [E.toNat] ∧ J B (q.map f) X) ∨ (Jx B (pre.map f) X ∧ ∀ y ∈ pre, (y : Int) ≠ E)))
    ?hI ?hIx ?h0
    (fun x => { tmps := #[.func (.yield l) #[] #[], .pointer (some ⟨b + 2, 0, none⟩), .pointer (some ⟨b, 0, none⟩), .pointer (some ⟨b + 1, 0, none⟩), .pointer (some ⟨W.heap.size, 0, none⟩), .int .i64 x, .int .i64 x, undef, undef, undef, undef, undef, undef, undef, undef, undef, undef, undef], defers := [] })
    ?assign ?body ?done ?stop
  case hI =>
    rintro B pre X Y hB ⟨j1, ⟨d0, d1, d2, d3⟩, j2⟩ ho
    exact ⟨hJ B _ X Y (by omega) j1 (ho.mono (by omega)), ⟨ho.box d0 (.inl (by omega)), ho.box d1 (.inl (by omega)), ho.box d2 (.inl (by omega)), ho.box d3 (.inl (by omega))⟩, j2⟩
  case hIx =>
    rintro B c pre X Y hB ⟨rfl, (⟨q, rfl, j1⟩ | ⟨j1, j2⟩)⟩ ho
    · exact ⟨rfl, .inl ⟨q, rfl, hJ B _ X Y (by omega) j1 (ho.mono (by omega))⟩⟩
    · exact ⟨rfl, .inr ⟨hJx B _ X Y (by omega) j1 (ho.mono (by omega)), j2⟩⟩
  case h0 =>
    intro X hX _
    have hWX : Below W.heap.size W X := hB2.trans (hX.mono (by omega))
    exact ⟨h0 X hWX, ⟨(hX.block _ (by omega)).trans y2, (hWX.block _ (by omega)).trans c0, (hWX.block _ (by omega)).trans c1, (hWX.block _ (by omega)).trans c2⟩, fun y hy => by cases hy⟩
  case assign =>
    intro l' x X K hK
    gi_wp2_with (rw [Oper.semAt_eq _ _ _ (fun c h => by cases h)]; go_simp; try go_bits)
    simpa using hK
  case body =>
    rintro l' B pre x X hB hBX hpre ⟨j1, ⟨d0, d1, d2, d3⟩, j2⟩
    obtain ⟨rfl, hx⟩ := snoc_range hpre
    have e0 := d0.cell
    have e1 := d1.cell
    have e2 := d2.cell
    have e3 := d3.cell
    by_cases hxE : (x : Int) = E
    · have hxe : ((x : Int) == E) = true := beq_iff_eq.2 hxE
      gi_wp2_with (rw [Oper.semAt_eq _ _ _ (fun c h => by cases h)]; go_simp; try go_bits)
      exact ⟨Keeps.refl _ _ _, Keeps.refl _ _ _, rfl, .inl ⟨List.range x, by rw [show E.toNat = x by omega], j1⟩⟩
    · have hxe : ((x : Int) == E) = false := beq_eq_false_iff_ne.2 hxE
      have hxE' : x < E.toNat := by
        rcases Nat.lt_trichotomy x E.toNat with h' | h' | h'
        · exact h'
        · omega
        · exact absurd (by omega) (j2 E.toNat (List.mem_range.2 h'))
      have hpre2 : (List.range x).map f ++ [f x] <+: xs := by
        rw [hL.out, ← List.map_singleton, ← List.map_append, ← List.range_succ]
        exact (range_pre _ _ hxE').map f
      obtain ⟨fn, tmps, assign, body, hy, hR⟩ := YieldAt.wide (m' := 6) (hY B ((List.range x).map f) (f x) X.drew (by omega) hBX hpre2 (hJ B _ _ _ (by omega) j1 (Outside.drew _ _ _)))
      have hsem := @Oper.semAt_some l'
      obtain ⟨R, hR', hRd⟩ : ∃ R : Bool → World → Prop, (RoundIn Fence.wide 6 Tryd.prog l fn tmps assign body X.drew fun e Y => ∃ bb : Bool, e = .returned (.bool bb) ∧ R bb Y) ∧
          (∀ bb Y, R bb Y → Keeps b (b + 3) X.drew Y ∧ Keeps W.heap.size B X.drew Y ∧ (if bb then J B ((List.range x).map f ++ [f x]) Y else Jx B ((List.range x).map f ++ [f x]) Y)) :=
        ⟨_, hR, fun bb Y h => h⟩
      have hax := hat x X.drew hx
      gi_wp2
      refine wpIn_mono (Q := fun e a Y => ∃ bb : Bool, e = .normal ∧ a = { tmps := #[.func (.yield l) #[] #[], .pointer (some ⟨b + 2, 0, none⟩), .pointer (some ⟨b, 0, none⟩), .pointer (some ⟨b + 1, 0, none⟩), .pointer (some ⟨W.heap.size, 0, none⟩), .int .i64 x, .int .i64 x, .bool !bb, .int .i64 x, .int .i64 E, .bool false, .func (.yield l) #[] #[], .int .u64 h, .int .i64 x, .int .i64 g, .int .i64 (f x), .bool bb, .bool !bb], defers := [] } ∧ R bb Y) ?_ ?_
      · clear hRd hR hat hY hL hB hBX d0 d1 d2 d3 hpre j1 j2 hxE hxe hxE' hpre2 hB2 hz2 y2 c0 c1 c2 hJ hJx h0 hK hz hfi he hb
        generalize f x = fx at *
        generalize W.heap.size = A at *
        gi_region_with_o (first
          | (refine ⟨trivial, ?_⟩; gi_at_call 61; refine (CallsIn.inRound l' (callsIn_wide.2 hax)).mono ?_; rintro e w' ⟨rfl, rfl⟩)
          | (refine (RoundIn.inRound hR').mono ?_; rintro e Y ⟨bb, rfl, hb⟩))
        all_goals exact ⟨bb, rfl, rfl, hb⟩
      · rintro e a Y ⟨bb, rfl, rfl, hbb⟩
        obtain ⟨k1, k2, hb'⟩ := hRd bb Y hbb
        clear hRd hbb hR hy hax hat hY
        have hsem := @Oper.semAt_some l'
        have k3 : Keeps W.heap.size B X Y := ⟨k2.size, k2.same⟩
        have k4 : Keeps W2.heap.size B X Y := k3.mono (by omega) (Nat.le_refl _)
        cases bb with
        | false =>
          rw [if_neg (by simp)] at hb'
          gi_wp2
          refine ⟨⟨k1.size, fun k _ h => by omega⟩, k4, rfl, .inr ⟨by rw [List.map_append]; exact hb', fun y hy => ?_⟩⟩
          rcases List.mem_append.1 hy with hy | hy
          · exact j2 y hy
          · rw [List.mem_singleton.1 hy]; exact hxE
        | true =>
          rw [if_pos rfl] at hb'
          gi_wp2
          refine ⟨⟨k1.size, fun k _ h => by omega⟩, k4, by rw [List.map_append]; exact hb', ⟨k2.box d0 (Nat.le_refl _) (by omega), k1.box d1 (by omega) (by omega), k1.box d2 (by omega) (by omega), k1.box d3 (by omega) (by omega)⟩, fun y hy => ?_⟩
          rcases List.mem_append.1 hy with hy | hy
          · exact j2 y hy
          · rw [List.mem_singleton.1 hy]; exact hxE
  case done =>
    rintro B X hB ⟨j1, _, j2⟩ hD
    have hE : E.toNat = 1024 := by
      rcases Nat.lt_or_ge E.toNat 1024 with h' | h'
      · exact absurd (by omega) (j2 E.toNat (List.mem_range.2 h'))
      · omega
    gi_wp2
    refine ⟨by simp, .inl ⟨_, _, rfl, run_takeDeferred hD, ?_⟩⟩
    refine ⟨_, results_none rfl _ _ _, ⟨_, rfl⟩, B, by omega, .inl (hJ B _ X _ (by omega) ?_ (Outside.putObj _ (by omega) hD rfl))⟩
    rw [hL.out, hE]
    exact j1
  case stop =>
    rintro B c pre X hB hpre ⟨rfl, hh⟩ hD
    obtain ⟨hp1, hp2⟩ := pre_range hpre
    gi_wp2
    refine ⟨by simp, .inl ⟨_, _, rfl, run_takeDeferred hD, ?_⟩⟩
    refine ⟨_, results_none rfl _ _ _, ⟨_, rfl⟩, B, by omega, ?_⟩
    rcases hh with ⟨q, hq, j1⟩ | ⟨j1, j2⟩
    · refine .inl (hJ B _ X _ (by omega) ?_ (Outside.putObj _ (by omega) hD rfl))
      subst hq
      rw [hL.out, ← (snoc_range hpre).1]
      exact j1
    · refine .inr ⟨pre.map f, ?_, hJx B _ X _ (by omega) j1 (Outside.putObj _ (by omega) hD rfl)⟩
      rw [hL.out]
      refine List.IsPrefix.map f ?_
      rw [hp1]
      refine range_pre _ _ ?_
      rcases Nat.lt_or_ge E.toNat pre.length with h' | h'
      · exact absurd (by omega) (j2 E.toNat (by rw [hp1]; exact List.mem_range.2 h'))
      · exact h'
end Go.Proofs.YthlghokgknkpaaaDoor

/-
  A map of groups of slots as lists: what is found, placed, laid anew, put and deleted, by the bytes of the words alone. No function of the program is named here.
-/
namespace Go.Proofs.YthlghokgknkpaaaDoor
open Go.RowKit Go.Shelf

/-- A map: its seed, a word for each group, eight slots for each word, how many keys and how many deleted slots it counts. -/
structure SM where
  (k0 k1 : Int)
  ws : List Nat
  ss : List (ByteArray × Value)
  (n t : Nat)

def SM.w (M : SM) (g : Nat) : Nat := M.ws.getD g 0
def SM.s (M : SM) (p : Nat) : ByteArray × Value := M.ss.getD p (ByteArray.empty, .bool false)
def SM.hash (M : SM) (key : ByteArray) : Int := sumI M.k0 M.k1 (byt key) key.size
def SM.what (M : SM) (key : ByteArray) : Nat := (M.hash key % 128).toNat
/-- A key's groups, in their order. -/
def SM.gs (M : SM) (key : ByteArray) : List Nat := (grpL (M.hash key / 128) M.ws.length).map Int.toNat

/-- The slot of a group that has the key. -/
def SM.hit (M : SM) (key : ByteArray) (g : Nat) : Option Nat := (List.range 8).find? fun i => decide (byteN (M.w g) i = M.what key ∧ (M.s (8 * g + i)).1 = key)
/-- Has a word an empty slot? -/
def hasE (w : Nat) : Bool := (List.range 8).any fun i => decide (byteN w i = 128)
def SM.findG (M : SM) (key : ByteArray) : List Nat → Option Nat
  | [] => none
  | g :: r => match M.hit key g with
    | some i => some (8 * g + i)
    | none => if hasE (M.w g) then none else M.findG key r
def SM.find (M : SM) (key : ByteArray) : Option Nat := M.findG key (M.gs key)

/-- The lowest free slot of a word. -/
def freeI (w : Nat) : Option Nat := (List.range 8).find? fun i => decide (byteN w i = 128 ∨ byteN w i = 254)
def SM.spot (M : SM) : List Nat → Option (Nat × Nat)
  | [] => none
  | g :: r => match freeI (M.w g) with
    | some i => some (g, i)
    | none => M.spot r
/-- A key laid in a slot. -/
def SM.lay (M : SM) (key : ByteArray) (v : Value) (g i : Nat) : SM :=
  { M with ws := M.ws.set g (putN (M.w g) i (M.what key)), ss := M.ss.set (8 * g + i) (key, v), n := M.n + 1, t := if byteN (M.w g) i = 254 then M.t - 1 else M.t }
def SM.place (M : SM) (key : ByteArray) (v : Value) : SM :=
  match M.spot (M.gs key) with
  | none => M
  | some (g, i) => M.lay key v g i

/-- The places of all keys, in the order of slots. -/
def SM.full (M : SM) : List Nat := (List.range (8 * M.ws.length)).filter fun p => decide (byteN (M.w (p / 8)) (p % 8) < 128)
def SM.keys (M : SM) : List ByteArray := M.full.map fun p => (M.s p).1
def noneW : Nat := 9259542123273814144
def SM.empty (k0 k1 : Int) (z : Value) (g : Nat) : SM := ⟨k0, k1, List.replicate g noneW, List.replicate (8 * g) (ByteArray.empty, z), 0, 0⟩
def SM.size' (M : SM) : Nat := if M.t = 0 ∨ 7 * M.ws.length < 2 * M.n then 2 * M.ws.length else M.ws.length
def SM.rehash (M : SM) (z : Value) : SM := M.full.foldl (fun N p => N.place (M.s p).1 (M.s p).2) (SM.empty M.k0 M.k1 z M.size')

/-- Put: was it there, which error, and the map. -/
def SM.put (M : SM) (key : ByteArray) (v z : Value) : Bool × Nat × SM :=
  match M.find key with
  | some p => (true, 0, { M with ss := M.ss.set p ((M.s p).1, v) })
  | none => if 2000 ≤ M.n then (false, 7, M) else (false, 0, (if 7 * M.ws.length ≤ M.n + M.t then M.rehash z else M).place key v)
def SM.del (M : SM) (key : ByteArray) (z : Value) : Bool × SM :=
  match M.find key with
  | none => (false, M)
  | some p => (true, { M with ws := M.ws.set (p / 8) (putN (M.w (p / 8)) (p % 8) (if hasE (M.w (p / 8)) then 128 else 254)), ss := M.ss.set p (ByteArray.empty, z), n := M.n - 1, t := if hasE (M.w (p / 8)) then M.t else M.t + 1 })
def SM.get (M : SM) (key : ByteArray) (z : Value) : Value × Bool :=
  match M.find key with
  | none => (z, false)
  | some p => ((M.s p).2, true)

/-- What every map that a call made is: as far as the calls ask for it. -/
structure SM.Fit (M : SM) : Prop where
  good : isGood (M.ws.length : Int) = true
  slots : M.ss.length = 8 * M.ws.length
  words : ∀ g, g < M.ws.length → M.w g < 18446744073709551616
  few : M.n ≤ 1099511627776 ∧ M.t ≤ 1099511627776
  texts : ∀ p, p < M.ss.length → (M.s p).1.size < 140737488355328

theorem wd_xorI (x y : Int) : Wd (xorI x y) := by
  unfold xorI
  show Wd (IntKind.u64.wrap _)
  unfold Wd
  rw [IntKind.wrap_u64]
  omega
theorem SM.wd_hash (M : SM) (key : ByteArray) : Wd (M.hash key) := by unfold SM.hash sumI; exact wd_xorI _ _
theorem SM.what_lt (M : SM) (key : ByteArray) : M.what key < 128 := by unfold SM.what; omega
theorem SM.what_eq (M : SM) (key : ByteArray) : ((M.what key : Nat) : Int) = M.hash key % 128 := by unfold SM.what; omega
theorem grp_range {x g : Int} (hg : isGood g = true) : ∀ y ∈ grpL x g, 0 ≤ y ∧ y < g := by
  intro y hy
  unfold grpL endI at hy
  rw [if_pos hg] at hy
  obtain ⟨i, hi, e⟩ := List.mem_map.1 hy
  have hi := List.mem_range.1 hi
  have hr := good_range hg
  subst e
  unfold atI
  rw [if_pos ⟨hg, by omega, by omega⟩]
  have : atN x.toNat ((i : Int)).toNat g.toNat < g.toNat := Nat.mod_lt _ (by omega)
  omega
theorem map_back : ∀ (l : List Int), (∀ y ∈ l, 0 ≤ y) → l = (l.map Int.toNat).map fun g : Nat => (g : Int)
  | [], _ => rfl
  | y :: r, h => by
    have h1 := map_back r fun z hz => h z (List.mem_cons_of_mem _ hz)
    have h2 := h y List.mem_cons_self
    rw [List.map_cons, List.map_cons, ← h1]
    congr 1
    omega
theorem SM.gs_lt {M : SM} (h : M.Fit) (key : ByteArray) : ∀ g ∈ M.gs key, g < M.ws.length := by
  intro g hg
  have hr := grp_range (x := M.hash key / 128) h.good
  unfold SM.gs at hg
  generalize M.hash key / 128 = x at *
  obtain ⟨y, hy, rfl⟩ := List.mem_map.1 hg
  have := hr y hy
  omega
theorem SM.gs_eq {M : SM} (h : M.Fit) (key : ByteArray) : grpL (M.hash key / 128) M.ws.length = (M.gs key).map fun g : Nat => (g : Int) := by
  have hr := grp_range (x := M.hash key / 128) h.good
  unfold SM.gs
  generalize M.hash key / 128 = x at *
  exact map_back _ fun y hy => (hr y hy).1

/-- The bit of a set. -/
theorem st_bit : ∀ (k : Nat) (m : Nat → Nat), (∀ i, m i < 2) → ∀ i, i < k → st k m / 2 ^ i % 2 = m i
  | 0, _, _, _, h => by omega
  | k + 1, m, hm, i, hi => by
    show (st k m + m k * 2 ^ k) / 2 ^ i % 2 = m i
    by_cases e : i = k
    · subst e
      rw [Nat.add_mul_div_right _ _ (Nat.two_pow_pos _), Nat.div_eq_of_lt (st_lt i m hm), Nat.zero_add, Nat.mod_eq_of_lt (hm i)]
    · have hik : i < k := by omega
      rw [← st_bit k m hm i hik, show m k * 2 ^ k = m k * 2 ^ (k - i) * 2 ^ i by rw [Nat.mul_assoc, ← Nat.pow_add]; congr 2; omega, Nat.add_mul_div_right _ _ (Nat.two_pow_pos _)]
      have : m k * 2 ^ (k - i) % 2 = 0 := by
        rw [show k - i = (k - i - 1) + 1 by omega, Nat.pow_succ, ← Nat.mul_assoc]; omega
      omega
theorem slots_st (m : Nat → Nat) (hm : ∀ i, m i < 2) : slotsL (st 8 m) = (List.range 8).filter fun i => decide (m i = 1) := by
  unfold slotsL
  refine List.filter_congr fun i hi => ?_
  rw [st_bit 8 m hm i (List.mem_range.1 hi)]
theorem ite_one (p : Prop) [Decidable p] : ((if p then 1 else 0 : Nat) = 1) ↔ p := by by_cases h : p <;> simp [h]
theorem slots_match (n h : Nat) : slotsL (matchN n h) = (List.range 8).filter fun i => decide (byteN n i = h) := by
  unfold matchN
  rw [slots_st _ (fun _ => ite_lt2 _)]
  simp only [ite_one]
theorem slots_full (n : Nat) : slotsL (fullN n) = (List.range 8).filter fun i => decide (byteN n i < 128) := by
  unfold fullN
  rw [slots_st _ (fun _ => ite_lt2 _)]
  simp only [ite_one]
theorem slots_free (n : Nat) : slotsL (freeN n) = (List.range 8).filter fun i => decide (byteN n i = 128 ∨ byteN n i = 254) := by
  unfold freeN
  rw [slots_st _ (fun _ => ite_lt2 _)]
  simp only [ite_one]
theorem slots_nil : ∀ s : Fin 256, slotsL s.val = [] → s.val = 0 := by decide +kernel
theorem hasE_match (n : Nat) : hasE n = !decide (matchN n 128 = 0) := by
  unfold hasE
  have h1 := slots_match n 128
  have h2 := slots_nil ⟨matchN n 128, matchN_lt n 128⟩
  by_cases h : matchN n 128 = 0
  · rw [h, slots_zero] at h1
    rw [decide_eq_true h, Bool.not_true, List.any_eq_false]
    intro x hx hq
    have : x ∈ (List.range 8).filter fun i => decide (byteN n i = 128) := List.mem_filter.2 ⟨hx, hq⟩
    rw [← h1] at this
    cases this
  · rw [decide_eq_false h, Bool.not_false, List.any_eq_true]
    cases hf : (List.range 8).filter fun i => decide (byteN n i = 128) with
    | nil => exact absurd (h2 (h1.trans hf)) h
    | cons a r =>
      have : a ∈ (List.range 8).filter fun i => decide (byteN n i = 128) := by rw [hf]; exact List.mem_cons_self
      obtain ⟨h3, h4⟩ := List.mem_filter.1 this
      exact ⟨a, h3, h4⟩
theorem free_none {n : Nat} (h : freeN n = 0) : freeI n = none := by
  have h1 := slots_free n
  rw [h, slots_zero] at h1
  unfold freeI
  rw [List.find?_eq_none]
  intro x hx hq
  have : x ∈ (List.range 8).filter fun i => decide (byteN n i = 128 ∨ byteN n i = 254) := List.mem_filter.2 ⟨hx, hq⟩
  rw [← h1] at this
  cases this
theorem free_some {n : Nat} (h : freeN n ≠ 0) : freeI n = some (firstN (freeN n)) ∧ firstN (freeN n) < 8 := by
  have h1 := slots_free n
  have h2 := slots_step ⟨freeN n, freeN_lt n⟩ h
  dsimp only at h2
  rw [h1] at h2
  unfold freeI
  rw [← List.head?_filter, h2]
  refine ⟨rfl, ?_⟩
  have : firstN (freeN n) ∈ (List.range 8).filter fun i => decide (byteN n i = 128 ∨ byteN n i = 254) := by rw [h2]; exact List.mem_cons_self
  exact List.mem_range.1 (List.mem_filter.1 this).1
theorem hit_eq (M : SM) (key : ByteArray) (g : Nat) : M.hit key g = (slotsL (matchN (M.w g) (M.what key))).find? fun i => decide ((M.s (8 * g + i)).1 = key) := by
  rw [slots_match, List.find?_filter]
  unfold SM.hit
  congr 1
  funext i
  simp

/-- The places of keys below a place. -/
def SM.fullTo (M : SM) (k : Nat) : List Nat := (List.range k).filter fun p => decide (byteN (M.w (p / 8)) (p % 8) < 128)
theorem full_to (M : SM) : M.full = M.fullTo (8 * M.ws.length) := rfl
theorem fullTo_pre (M : SM) {j k : Nat} (h : j ≤ k) : M.fullTo j <+: M.fullTo k := (range_pre j k h).filter _
theorem range8_add (g : Nat) : List.range (8 * (g + 1)) = List.range (8 * g) ++ (List.range 8).map (8 * g + ·) := by
  rw [show 8 * (g + 1) = 8 * g + 8 by omega, List.range_add]
theorem fullTo_step (M : SM) (g : Nat) : M.fullTo (8 * (g + 1)) = M.fullTo (8 * g) ++ (slotsL (fullN (M.w g))).map (8 * g + ·) := by
  unfold SM.fullTo
  rw [range8_add, List.filter_append, slots_full]
  congr 1
  rw [List.filter_map]
  congr 1
  refine List.filter_congr fun i hi => ?_
  have hi := List.mem_range.1 hi
  show decide (byteN (M.w ((8 * g + i) / 8)) ((8 * g + i) % 8) < 128) = _
  rw [show (8 * g + i) / 8 = g by omega, show (8 * g + i) % 8 = i by omega]
theorem need_good (n : Int) : needI n = 0 ∨ isGood (needI n) = true := by
  unfold needI
  repeat' split
  all_goals first | exact .inl rfl | exact .inr (by decide)
end Go.Proofs.YthlghokgknkpaaaDoor
