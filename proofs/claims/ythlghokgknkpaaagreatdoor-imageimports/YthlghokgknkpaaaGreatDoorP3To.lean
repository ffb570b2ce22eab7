import Derived.Test.YthlghokgknkpaaaGreatDoorChecked
import Derived.WalkKit
import Derived.ProofKit
import Derived.Test.YthlghokgknkpaaaGreatDoorRngTo
/-
  Contracts: probe.Good, probe.At, probe.Need, and the document's Good, At, Need.
-/
namespace Go.Proofs.YthlghokgknkpaaaGreatDoor
open Go.RowKit

/-- The counts of groups that are good. -/
def pows : List Int := [1, 2, 4, 8, 16, 32, 64, 128, 256, 512, 1024]
def isGood (g : Int) : Bool := decide (g ∈ pows)
theorem good_range {g : Int} (h : isGood g = true) : 1 ≤ g ∧ g ≤ 1024 := by
  have h' : g ∈ pows := of_decide_eq_true h
  simp [pows] at h'
  omega
theorem good_out {g : Int} (h : g < 1 ∨ 1024 < g) : isGood g = false := by
  cases e : isGood g with
  | false => rfl
  | true => have := good_range e; omega
theorem good_bits_fin : ∀ n : Fin 1025, 1 ≤ n.val → (bits .and .i64 (n.val : Int) ((n.val : Int) - 1) == 0) = isGood n.val := by decide +kernel
theorem good_bits {g : Int} (h1 : 1 ≤ g) (h2 : g ≤ 1024) : (bits .and .i64 g (g - 1) == 0) = isGood g := by
  have := good_bits_fin ⟨g.toNat, by omega⟩ (by show 1 ≤ g.toNat; omega)
  have e : ((g.toNat : Nat) : Int) = g := by omega
  dsimp only at this
  rw [e] at this
  exact this

set_option maxHeartbeats 1000000 in
theorem good_any (g : Int) (w : World) (h1 : -9223372036854775808 ≤ g) (h2 : g < 9223372036854775808) : Calls Tryz.prog 62 #[.int .i64 g] w fun e w' => e = .returned (.bool (isGood g)) ∧ w' = w := by
  by_cases hl : g < 1
  · have e1 := good_out (.inl hl)
    go_enter Tryz.func62, Tryz.ntmps62
    go_wp2
    go_ret
    exact ⟨rfl, rfl⟩
  · by_cases hr : 1024 < g
    · have e1 := good_out (.inr hr)
      go_enter Tryz.func62, Tryz.ntmps62
      go_wp2
      go_ret
      exact ⟨rfl, rfl⟩
    · have e1 := good_bits (g := g) (by omega) (by omega)
      go_enter Tryz.func62, Tryz.ntmps62
      go_wp2
      go_ret
      exact ⟨by rw [← e1]; rfl, rfl⟩

/-- What a count of groups is doubled to, the first one behind the last good one included. -/
def UpTo (q : Int) : Prop := q = 1 ∨ q = 2 ∨ q = 4 ∨ q = 8 ∨ q = 16 ∨ q = 32 ∨ q = 64 ∨ q = 128 ∨ q = 256 ∨ q = 512 ∨ q = 1024 ∨ q = 2048
theorem UpTo.one : UpTo 1 := .inl rfl
theorem UpTo.next {q : Int} (h : UpTo q) (hq : q ≠ 2048) : UpTo (q * 2) := by unfold UpTo at *; omega
theorem UpTo.good {q : Int} (h : UpTo q) (hq : q ≠ 2048) : isGood q = true := by
  refine decide_eq_true ?_
  unfold UpTo at h
  simp only [pows, List.mem_cons, List.not_mem_nil, or_false]
  omega
theorem UpTo.range {q : Int} (h : UpTo q) : 1 ≤ q ∧ q ≤ 2048 := by unfold UpTo at h; omega
theorem good_mem {g : Int} (h : isGood g = true) : g = 1 ∨ g = 2 ∨ g = 4 ∨ g = 8 ∨ g = 16 ∨ g = 32 ∨ g = 64 ∨ g = 128 ∨ g = 256 ∨ g = 512 ∨ g = 1024 := by
  have h' : g ∈ pows := of_decide_eq_true h
  simpa [pows] using h'

/-- How many groups so many keys need. -/
def needI (n : Int) : Int :=
  if n ≤ 7 then 1 else if n ≤ 14 then 2 else if n ≤ 28 then 4 else if n ≤ 56 then 8 else if n ≤ 112 then 16 else if n ≤ 224 then 32 else if n ≤ 448 then 64 else if n ≤ 896 then 128
  else if n ≤ 1792 then 256 else if n ≤ 3584 then 512 else if n ≤ 7168 then 1024 else 0
theorem need_at {n q : Int} (h : UpTo q) (hq : q ≠ 2048) (h1 : q = 1 ∨ 7 * q < 2 * n) (h2 : n ≤ 7 * q) : needI n = q := by
  unfold needI
  unfold UpTo at h
  rcases h with rfl | rfl | rfl | rfl | rfl | rfl | rfl | rfl | rfl | rfl | rfl | rfl <;>
    first
    | exact absurd rfl hq
    | (repeat first | rw [if_pos (by omega)] | rw [if_neg (by omega)])
theorem need_none {n : Int} (h : 7168 < n) : needI n = 0 := by
  unfold needI
  repeat rw [if_neg (by omega)]

set_option maxRecDepth 10000 in
set_option maxHeartbeats 1000000 in
theorem rgood_any (g : Int) (w : World) (h1 : -9223372036854775808 ≤ g) (h2 : g < 9223372036854775808) : Calls Tryz.prog 107 #[.int .i64 g] w fun e w' => e = .returned (.bool (isGood g)) ∧ w' = w := by
  go_enter Tryz.func107, Tryz.ntmps107
  go_wp2
  go_loop [3] (fun t => ∃ q : Int, t = .int .i64 q ∧ Hid (UpTo q) ∧ Hid (∀ p ∈ pows, p < q → p ≠ g)) (fun t => 2048 - (intOf t).toNat)
  case atStart => exact ⟨1, rfl, UpTo.one, fun p hp hlt => by simp [pows] at hp; omega⟩
  case round =>
    obtain ⟨q, rfl, hu, hz⟩ := hrel
    have hr := hu.out.range
    by_cases hq : q = 2048
    · subst hq
      have hf : Hid (isGood g = false) := decide_eq_false fun hg => hz.out g hg (by have := good_range (decide_eq_true hg : isGood g = true); omega) rfl
      go_wp2
      go_ret
      exact ⟨by rw [hf.out]; rfl, rfl⟩
    · have hlt : q ≤ 1024 := by have := hu.out; unfold UpTo at this; omega
      by_cases he : q = g
      · subst he
        have hf : Hid (isGood q = true) := hu.out.good hq
        go_wp2
        go_ret
        exact ⟨by rw [hf.out]; rfl, rfl⟩
      · have hn : Hid (UpTo (q * 2)) := hu.out.next hq
        have hz2 : Hid (∀ p ∈ pows, p < q * 2 → p ≠ g) := fun p hp hlt => by
          by_cases hpq : p < q
          · exact hz.out p hp hpq
          · have hpm : isGood p = true := decide_eq_true hp
            have := good_mem hpm
            have := hu.out
            unfold UpTo at this
            omega
        go_wp2
        refine ⟨⟨q * 2, rfl, hn, hz2⟩, by simp only [intOf]; omega⟩

set_option maxRecDepth 10000 in
set_option maxHeartbeats 1000000 in
theorem need_any (n : Int) (w : World) (h1 : -9223372036854775808 ≤ n) (h2 : n < 9223372036854775808) : Calls Tryz.prog 29 #[.int .i64 n] w fun e w' => e = .returned (.int .i64 (needI n)) ∧ w' = w := by
  go_enter Tryz.func29, Tryz.ntmps29
  go_wp2
  go_loop [3] (fun t => ∃ q : Int, t = .int .i64 q ∧ Hid (UpTo q) ∧ Hid (q = 1 ∨ 7 * q < 2 * n)) (fun t => 2048 - (intOf t).toNat)
  case atStart => exact ⟨1, rfl, UpTo.one, .inl rfl⟩
  case round =>
    obtain ⟨q, rfl, hu, hz⟩ := hrel
    have hr := hu.out.range
    by_cases hq : q = 2048
    · subst hq
      have hf : Hid (needI n = 0) := need_none (by have := hz.out; omega)
      have hg : isGood 2048 = false := by decide
      go_wp2_with (go_at_call 62; refine (good_any _ _ (by omega) (by omega)).mono ?_; rintro e w' ⟨rfl, rfl⟩; rw [hg])
      go_ret
      exact ⟨by rw [hf.out]; rfl, rfl⟩
    · have hlt : q ≤ 1024 := by have := hu.out; unfold UpTo at this; omega
      have hg := hu.out.good hq
      by_cases he : n ≤ 7 * q
      · have hf : Hid (needI n = q) := need_at hu.out hq hz.out he
        go_wp2_with (go_at_call 62; refine (good_any _ _ (by omega) (by omega)).mono ?_; rintro e w' ⟨rfl, rfl⟩; rw [hg])
        go_ret
        exact ⟨by rw [hf.out]; rfl, rfl⟩
      · have hn : Hid (UpTo (q * 2)) := hu.out.next hq
        have hz2 : Hid (q * 2 = 1 ∨ 7 * (q * 2) < 2 * n) := .inr (by omega)
        go_wp2_with (go_at_call 62; refine (good_any _ _ (by omega) (by omega)).mono ?_; rintro e w' ⟨rfl, rfl⟩; rw [hg])
        refine ⟨⟨q * 2, rfl, hn, hz2⟩, by simp only [intOf]; omega⟩

set_option maxRecDepth 10000 in
set_option maxHeartbeats 1000000 in
theorem rneed_any (n : Int) (w : World) (h1 : -9223372036854775808 ≤ n) (h2 : n < 9223372036854775808) : Calls Tryz.prog 31 #[.int .i64 n] w fun e w' => e = .returned (.int .i64 (needI n)) ∧ w' = w := by
  go_enter Tryz.func31, Tryz.ntmps31
  go_wp2
  go_loop [3] (fun t => ∃ q : Int, t = .int .i64 q ∧ Hid (UpTo q) ∧ Hid (q = 1 ∨ 7 * q < 2 * n)) (fun t => 2048 - (intOf t).toNat)
  case atStart => exact ⟨1, rfl, UpTo.one, .inl rfl⟩
  case round =>
    obtain ⟨q, rfl, hu, hz⟩ := hrel
    have hr := hu.out.range
    by_cases hq : q = 2048
    · subst hq
      have hf : Hid (needI n = 0) := need_none (by have := hz.out; omega)
      go_wp2
      go_ret
      exact ⟨by rw [hf.out]; rfl, rfl⟩
    · have hlt : q ≤ 1024 := by have := hu.out; unfold UpTo at this; omega
      by_cases he : n ≤ 7 * q
      · have hf : Hid (needI n = q) := need_at hu.out hq hz.out he
        go_wp2
        go_ret
        exact ⟨by rw [hf.out]; rfl, rfl⟩
      · have hn : Hid (UpTo (q * 2)) := hu.out.next hq
        have hz2 : Hid (q * 2 = 1 ∨ 7 * (q * 2) < 2 * n) := .inr (by omega)
        go_wp2
        refine ⟨⟨q * 2, rfl, hn, hz2⟩, by simp only [intOf]; omega⟩

/-- The group at a step. -/
def atN (h i g : Nat) : Nat := (h % g + i * (i + 1) / 2) % g
def atI (h i g : Int) : Int := if isGood g = true ∧ 0 ≤ i ∧ i < g then (atN h.toNat i.toNat g.toNat : Nat) else 0

end Go.Proofs.YthlghokgknkpaaaGreatDoor

/-
  Contracts: probe.At and the document's At.
-/
namespace Go.Proofs.YthlghokgknkpaaaGreatDoor
open Go.RowKit

theorem prod_le {i : Int} (h0 : 0 ≤ i) (h1 : i ≤ 1023) : 0 ≤ i * (i + 1) ∧ i * (i + 1) ≤ 1047552 := by
  constructor
  · exact Int.mul_nonneg h0 (by omega)
  · calc i * (i + 1) ≤ 1023 * (i + 1) := Int.mul_le_mul_of_nonneg_right h1 (by omega)
      _ ≤ 1047552 := by omega

theorem at_eq {h i g : Int} (hh : 0 ≤ h) (hg : isGood g = true) (h0 : 0 ≤ i) (h1 : i < g) : atI h i g = (h % g + i * (i + 1) / 2) % g := by
  have hr := good_range hg
  unfold atI
  rw [if_pos ⟨hg, h0, h1⟩]
  unfold atN
  have e1 : ((h.toNat : Nat) : Int) = h := by omega
  have e2 : ((i.toNat : Nat) : Int) = i := by omega
  have e3 : ((g.toNat : Nat) : Int) = g := by omega
  rw [Int.natCast_emod, Int.natCast_add, Int.natCast_emod, Int.natCast_ediv, Int.natCast_mul, Int.natCast_add, e1, e2, e3]
  rfl
theorem at_zero {h i g : Int} (hn : ¬ (isGood g = true ∧ 0 ≤ i ∧ i < g)) : atI h i g = 0 := by unfold atI; rw [if_neg hn]

set_option maxRecDepth 10000 in
set_option maxHeartbeats 1000000 in
theorem at_any (h i g : Int) (w : World) (hh0 : 0 ≤ h) (hh1 : h < 18446744073709551616) (hi1 : -9223372036854775808 ≤ i) (hi2 : i < 9223372036854775808) (h1 : -9223372036854775808 ≤ g) (h2 : g < 9223372036854775808) :
    Calls Tryz.prog 101 #[.int .u64 h, .int .i64 i, .int .i64 g] w fun e w' => e = .returned (.int .i64 (atI h i g)) ∧ w' = w := by
  by_cases hn : isGood g = true ∧ 0 ≤ i ∧ i < g
  · obtain ⟨hg, h0, hlt⟩ := hn
    have hr := good_range hg
    have hp := prod_le h0 (by omega)
    have ha : Hid (atI h i g = (h % g + i * (i + 1) / 2) % g) := at_eq hh0 hg h0 hlt
    have hm0 : 0 ≤ h % g := Int.emod_nonneg _ (by omega)
    have hm1 : h % g < g := Int.emod_lt_of_pos _ (by omega)
    go_enter Tryz.func101, Tryz.ntmps101
    go_wp2_with (go_at_call 62; refine (good_any _ _ (by omega) (by omega)).mono ?_; rintro e w' ⟨rfl, rfl⟩; rw [hg])
    go_ret
    refine ⟨?_, rfl⟩
    rw [ha.out]
    rfl
  · have ha : Hid (atI h i g = 0) := at_zero hn
    by_cases hg : isGood g = true
    · by_cases h0 : 0 ≤ i
      · have hlt : g ≤ i := by
          have : ¬ i < g := fun h' => hn ⟨hg, h0, h'⟩
          omega
        clear hn
        go_enter Tryz.func101, Tryz.ntmps101
        go_wp2_with (go_at_call 62; refine (good_any _ _ (by omega) (by omega)).mono ?_; rintro e w' ⟨rfl, rfl⟩; rw [hg])
        go_ret
        refine ⟨?_, rfl⟩
        rw [ha.out]
        rfl
      · clear hn
        go_enter Tryz.func101, Tryz.ntmps101
        go_wp2_with (go_at_call 62; refine (good_any _ _ (by omega) (by omega)).mono ?_; rintro e w' ⟨rfl, rfl⟩; rw [hg])
        go_ret
        refine ⟨?_, rfl⟩
        rw [ha.out]
        rfl
    · have hg' : isGood g = false := by cases e : isGood g with
        | false => rfl
        | true => exact absurd e hg
      clear hn hg
      go_enter Tryz.func101, Tryz.ntmps101
      go_wp2_with (go_at_call 62; refine (good_any _ _ (by omega) (by omega)).mono ?_; rintro e w' ⟨rfl, rfl⟩; rw [hg'])
      go_ret
      refine ⟨?_, rfl⟩
      rw [ha.out]
      rfl

set_option maxRecDepth 10000 in
set_option maxHeartbeats 1000000 in
theorem rat_any (h i g : Int) (w : World) (hh0 : 0 ≤ h) (hh1 : h < 18446744073709551616) (hi1 : -9223372036854775808 ≤ i) (hi2 : i < 9223372036854775808) (h1 : -9223372036854775808 ≤ g) (h2 : g < 9223372036854775808) :
    Calls Tryz.prog 108 #[.int .u64 h, .int .i64 i, .int .i64 g] w fun e w' => e = .returned (.int .i64 (atI h i g)) ∧ w' = w := by
  by_cases hn : isGood g = true ∧ 0 ≤ i ∧ i < g
  · obtain ⟨hg, h0, hlt⟩ := hn
    have hr := good_range hg
    have hp := prod_le h0 (by omega)
    have ha : Hid (atI h i g = (h % g + i * (i + 1) / 2) % g) := at_eq hh0 hg h0 hlt
    have hm0 : 0 ≤ h % g := Int.emod_nonneg _ (by omega)
    have hm1 : h % g < g := Int.emod_lt_of_pos _ (by omega)
    have hs0 : 0 ≤ (h % g + i * (i + 1) / 2) % g := Int.emod_nonneg _ (by omega)
    have hs1 : (h % g + i * (i + 1) / 2) % g < g := Int.emod_lt_of_pos _ (by omega)
    go_enter Tryz.func108, Tryz.ntmps108
    go_wp2_with (go_at_call 107; refine (rgood_any _ _ (by omega) (by omega)).mono ?_; rintro e w' ⟨rfl, rfl⟩; rw [hg])
    go_ret
    refine ⟨?_, rfl⟩
    rw [ha.out]
    show Ending.returned (.int .i64 (wrap64 ((h + i * (i + 1) / 2) % g))) = _
    rw [← Int.emod_add_emod, IntWalk.wrap64_in _ ⟨by omega, by omega⟩]
  · have ha : Hid (atI h i g = 0) := at_zero hn
    by_cases hg : isGood g = true
    · by_cases h0 : 0 ≤ i
      · have hlt : g ≤ i := by
          have : ¬ i < g := fun h' => hn ⟨hg, h0, h'⟩
          omega
        clear hn
        go_enter Tryz.func108, Tryz.ntmps108
        go_wp2_with (go_at_call 107; refine (rgood_any _ _ (by omega) (by omega)).mono ?_; rintro e w' ⟨rfl, rfl⟩; rw [hg])
        go_ret
        refine ⟨?_, rfl⟩
        rw [ha.out]
        rfl
      · clear hn
        go_enter Tryz.func108, Tryz.ntmps108
        go_wp2_with (go_at_call 107; refine (rgood_any _ _ (by omega) (by omega)).mono ?_; rintro e w' ⟨rfl, rfl⟩; rw [hg])
        go_ret
        refine ⟨?_, rfl⟩
        rw [ha.out]
        rfl
    · have hg' : isGood g = false := by cases e : isGood g with
        | false => rfl
        | true => exact absurd e hg
      clear hn hg
      go_enter Tryz.func108, Tryz.ntmps108
      go_wp2_with (go_at_call 107; refine (rgood_any _ _ (by omega) (by omega)).mono ?_; rintro e w' ⟨rfl, rfl⟩; rw [hg'])
      go_ret
      refine ⟨?_, rfl⟩
      rw [ha.out]
      rfl
end Go.Proofs.YthlghokgknkpaaaGreatDoor

/-
  Contracts: probe.steps, probe.Seq and the function that it makes.
-/
namespace Go.Proofs.YthlghokgknkpaaaGreatDoor
open Go.RowKit Go.Shelf

theorem range_pre (k n : Nat) (h : k ≤ n) : List.range k <+: List.range n := by
  have := List.take_prefix k (List.range n)
  rwa [List.take_range, Nat.min_eq_left h] at this
theorem pre_range {n : Nat} {pre : List Nat} (h : pre <+: List.range n) : pre = List.range pre.length ∧ pre.length ≤ n := by
  have hl := h.length_le
  rw [List.length_range] at hl
  refine ⟨?_, hl⟩
  rw [List.prefix_iff_eq_take] at h
  rw [List.take_range, Nat.min_eq_left hl] at h
  exact h
theorem snoc_range {n : Nat} {pre : List Nat} {x : Nat} (h : pre ++ [x] <+: List.range n) : pre = List.range x ∧ x < n := by
  obtain ⟨h1, h2⟩ := pre_range h
  rw [List.length_append, List.length_singleton] at h1 h2
  rw [List.range_succ] at h1
  obtain ⟨h3, h4⟩ := List.append_inj' h1 rfl
  obtain rfl : x = pre.length := by simpa using h4
  exact ⟨h3, by omega⟩

theorem RoundIn.inRound {F : Fence} {n : Nat} {P : Program} {l l' : Nat} {f : FuncId} {tmps : Array Value} {assign body : Code} {w : World} {R : Ending → World → Prop} (h : RoundIn F n P l f tmps assign body w R) :
    RoundIn (F.inRound l') n P l f tmps assign body w R := h

set_option maxRecDepth 100000 in
set_option maxHeartbeats 2000000 in
theorem steps_seq (w : World) : SeqW Tryz.prog 100 #[] (fun x : Nat => #[.int .i64 x]) 0 0 (List.range 1024) w := by
  intro l J Jx W _ hJ hJx hY h0
  refine (callsIn_wide (n := 3)).1 ?_
  refine callsIn_of_wp Tryz.func100 rfl trivial ?_ rfl
  simp only [Tryz.ntmps100, List.size_toArray, List.length_cons, List.length_nil, Nat.reduceAdd, Nat.reduceSub, Array.replicate_succ, Array.replicate_zero, List.push_toArray, List.append_toArray, List.nil_append, List.cons_append]
  gi_wp2
  gi_loopw [3] (fun p wr => ∃ k : Nat, k ≤ 1024 ∧ p = .int .i64 k ∧ W.heap.size ≤ wr.heap.size ∧ J W.heap.size (List.range k) wr) (fun p _ => 1024 - (intOf p).toNat)
  case atStart => exact ⟨0, by omega, rfl, Nat.le_refl _, h0 W (Below.refl _ _)⟩
  case round =>
    obtain ⟨k, hk, rfl, hz, hJk⟩ := hrel
    by_cases hlt : k < 1024
    · have hpre : List.range k ++ [k] <+: List.range 1024 := by rw [← List.range_succ]; exact range_pre _ _ hlt
      obtain ⟨fn, tmps, assign, body, hy, hR⟩ := YieldAt.wide (m' := 2) (hY W.heap.size (List.range k) k wr (Nat.le_refl _) hz hpre hJk)
      gi_wp2
      refine hR.mono ?_
      clear hR hy
      rintro e W3 ⟨b, rfl, _, k2, hb⟩
      have hz3 := k2.size
      rw [← List.range_succ] at hb
      cases b with
      | true =>
        gi_wp2
        go_roundw
        case rel => exact ⟨k + 1, by omega, rfl, by omega, hb⟩
        case measure => simp only [intOf]; omega
      | false =>
        gi_wp2
        refine bodyPost_ret (results_none rfl _ _ _) rfl ?_
        exact ⟨⟨_, rfl⟩, W.heap.size, Nat.le_refl _, .inr ⟨List.range (k + 1), range_pre _ _ hlt, hb⟩⟩
    · obtain rfl : k = 1024 := by omega
      gi_wp2
      go_end0
      exact ⟨⟨_, rfl⟩, W.heap.size, Nat.le_refl _, .inl hJk⟩

/-- How many groups are told. -/
def endI (g : Int) : Int := if isGood g = true then g else 0
theorem end_range (g : Int) : 0 ≤ endI g ∧ endI g ≤ 1024 := by
  unfold endI
  split
  · have := good_range (by assumption); omega
  · omega
/-- The groups of a hash, in their order. -/
def grpL (h g : Int) : List Int := (List.range (endI g).toNat).map fun i : Nat => atI h i g

theorem three_boxes (w : World) (u v x : Value) (s t r : TypeId) : Below w.heap.size w (((w.alloc (.cells #[u] s)).alloc (.cells #[v] t)).alloc (.cells #[x] r)) ∧
    (((w.alloc (.cells #[u] s)).alloc (.cells #[v] t)).alloc (.cells #[x] r)).heap.size = w.heap.size + 3 ∧ Boxed (((w.alloc (.cells #[u] s)).alloc (.cells #[v] t)).alloc (.cells #[x] r)) w.heap.size s u ∧
    Boxed (((w.alloc (.cells #[u] s)).alloc (.cells #[v] t)).alloc (.cells #[x] r)) (w.heap.size + 1) t v ∧ Boxed (((w.alloc (.cells #[u] s)).alloc (.cells #[v] t)).alloc (.cells #[x] r)) (w.heap.size + 2) r x := by
  have b1 := Boxed.new (w.alloc (.cells #[u] s)) t v
  have b2 := Boxed.new ((w.alloc (.cells #[u] s)).alloc (.cells #[v] t)) r x
  rw [World.size_alloc] at b1
  rw [World.size_alloc, World.size_alloc] at b2
  exact ⟨(((Below.refl _ w).alloc (Nat.le_refl _) _).alloc (by simp) _).alloc (by simp; omega) _, by simp, ((Boxed.new w s u).alloc _).alloc _, b1.alloc _, b2⟩

set_option maxRecDepth 10000 in
set_option maxHeartbeats 1000000 in
theorem seq_any (h g : Int) (w : World) (h1 : -9223372036854775808 ≤ g) (h2 : g < 9223372036854775808) :
    Calls Tryz.prog 65 #[.int .u64 h, .int .i64 g] w fun e w' => e = .returned (.func (.func 99) #[] #[.pointer (some ⟨w.heap.size + 2, 0, none⟩), .pointer (some ⟨w.heap.size, 0, none⟩), .pointer (some ⟨w.heap.size + 1, 0, none⟩)]) ∧
      Below w.heap.size w w' ∧ w'.heap.size = w.heap.size + 3 ∧ Boxed w' w.heap.size 22 (.int .u64 h) ∧ Boxed w' (w.heap.size + 1) 3 (.int .i64 g) ∧ Boxed w' (w.heap.size + 2) 3 (.int .i64 (endI g)) := by
  have hb := three_boxes w (.int .u64 h) (.int .i64 g) (.int .i64 (endI g)) 22 3 3
  cases hg : isGood g with
  | true =>
    have he : endI g = g := by unfold endI; rw [if_pos hg]
    rw [he] at hb ⊢
    clear he
    go_enter Tryz.func65, Tryz.ntmps65
    go_wp2_with (go_at_call 62; refine (good_any _ _ (by omega) (by omega)).mono ?_; rintro e w' ⟨rfl, rfl⟩; rw [hg])
    go_ret
    exact ⟨rfl, hb⟩
  | false =>
    have he : endI g = 0 := by unfold endI; rw [if_neg (by simp [hg])]
    rw [he] at hb ⊢
    clear he
    go_enter Tryz.func65, Tryz.ntmps65
    go_wp2_with (go_at_call 62; refine (good_any _ _ (by omega) (by omega)).mono ?_; rintro e w' ⟨rfl, rfl⟩; rw [hg])
    go_ret
    exact ⟨rfl, hb⟩

theorem scope_wide {n : Nat} {P : Program} {c : Code} {Q : Exit → Act → World → Prop} {a : Act} {w : World} (h : c.wpIn Fence.wide n P (Exit.noGoto Q) a w) : (Code.scope c).wpIn Fence.wide n P Q a w :=
  wpIn_wide.2 (wp_scope_straight ((wpIn_wide (n := n)).1 h))

set_option maxRecDepth 100000 in
set_option maxHeartbeats 4000000 in
/-- The function that Seq makes: it ranges over steps, and its rounds call the yield that came in. -/
theorem seq1_seq (b : Nat) (h g : Int) (hh0 : 0 ≤ h) (hh1 : h < 18446744073709551616) (h1 : -9223372036854775808 ≤ g) (h2 : g < 9223372036854775808) (w : World) (hb : b + 3 ≤ w.heap.size)
    (c0 : Boxed w b 22 (.int .u64 h)) (c1 : Boxed w (b + 1) 3 (.int .i64 g)) (c2 : Boxed w (b + 2) 3 (.int .i64 (endI g))) :
    SeqW Tryz.prog 99 #[.pointer (some ⟨b + 2, 0, none⟩), .pointer (some ⟨b, 0, none⟩), .pointer (some ⟨b + 1, 0, none⟩)] (fun x : Int => #[.int .i64 x]) b (b + 3) (grpL h g) w := by
  intro l J Jx W hK hJ hJx hY h0
  have hz := hK.size
  replace c0 := hK.box c0 (by omega) (by omega)
  replace c1 := hK.box c1 (by omega) (by omega)
  replace c2 := hK.box c2 (by omega) (by omega)
  have he := end_range g
  have hmix : Tryz.prog.follows .mixedOrders = true := by kernel_rfl
  obtain ⟨f, hf⟩ : ∃ f : Nat → Int, f = fun i : Nat => atI h i g := ⟨_, rfl⟩
  have hL : Hid (grpL h g = (List.range (endI g).toNat).map f) := by rw [hf]; rfl
  have hfi : ∀ i : Nat, atI h i g = f i := fun i => by rw [hf]
  clear hf
  have hat : ∀ (i : Nat) (X : World), i < 1024 → Calls Tryz.prog 101 #[.int .u64 h, .int .i64 i, .int .i64 g] X fun e w' => e = .returned (.int .i64 (f i)) ∧ w' = X := fun i X hi => by
    have := at_any h i g X hh0 hh1 (by omega) (by omega) h1 h2
    rw [hfi] at this
    exact this
  generalize endI g = E at *
  generalize grpL h g = xs at *
  refine (callsIn_wide (n := 9)).1 ?_
  refine callsIn_of_wp_marks Tryz.func99 rfl trivial ?_ rfl
  simp only [Tryz.ntmps99, List.size_toArray, List.length_cons, List.length_nil, Nat.reduceAdd, Nat.reduceSub, Array.replicate_succ, Array.replicate_zero, List.push_toArray, List.append_toArray, List.nil_append, List.cons_append]
  gi_wp2
  refine scope_wide ?_
  refine wpIn_seq (wpIn_label ?_)
  obtain ⟨W2, hW2⟩ : ∃ W2, W.alloc (.cells #[.func (.yield l) #[] #[]] 100) = W2 := ⟨_, rfl⟩
  have hB2 : Below W.heap.size W W2 := by rw [← hW2]; exact (Below.refl _ W).alloc (Nat.le_refl _) _
  have hz2 : W2.heap.size = W.heap.size + 1 := by rw [← hW2]; simp
  have y2 : Boxed W2 W.heap.size 100 (.func (.yield l) #[] #[]) := by rw [← hW2]; exact Boxed.new _ _ _
  rw [hW2]
  clear hW2
  gi_wp2
  refine range_seq (m := 7) (gf := 100) (lb := #[]) rfl (enters_of Tryz.func100 (by kernel_rfl) rfl) (steps_seq W2) (Nat.zero_le _) (fun _ => rfl)
    (fun B pre X => J B (pre.map f) X ∧ (Boxed X W.heap.size 100 (.func (.yield l) #[] #[]) ∧ Boxed X b 22 (.int .u64 h) ∧ Boxed X (b + 1) 3 (.int .i64 g) ∧ Boxed X (b + 2) 3 (.int .i64 E)) ∧ ∀ y ∈ pre, (y : Int) ≠ E)
    (fun B c pre X => c = .exit 0 ∧ ((∃ q, pre = q ++ [E.toNat] ∧ J B (q.map f) X) ∨ (Jx B (pre.map f) X ∧ ∀ y ∈ pre, (y : Int) ≠ E)))
    ?hI ?hIx ?h0
    (fun x => { tmps := #[.func (.yield l) #[] #[], .pointer (some ⟨b + 2, 0, none⟩), .pointer (some ⟨b, 0, none⟩), .pointer (some ⟨b + 1, 0, none⟩), .pointer (some ⟨W.heap.size, 0, none⟩), .int .i64 x, .int .i64 x, undef, undef, undef, undef, undef, undef, undef, undef, undef, undef, undef], defers := [] })
    ?assign ?body ?done ?stop
  case hI =>
    rintro B pre X Y hB ⟨j1, ⟨d0, d1, d2, d3⟩, j2⟩ ho
    exact ⟨hJ B _ X Y (by omega) j1 (ho.mono (by omega)), ⟨ho.box d0 (.inl (by omega)), ho.box d1 (.inl (by omega)), ho.box d2 (.inl (by omega)), ho.box d3 (.inl (by omega))⟩, j2⟩
  case hIx =>
    rintro B c pre X Y hB ⟨rfl, (⟨q, rfl, j1⟩ | ⟨j1, j2⟩)⟩ ho
    · exact ⟨rfl, .inl ⟨q, rfl, hJ B _ X Y (by omega) j1 (ho.mono (by omega))⟩⟩
    · exact ⟨rfl, .inr ⟨hJx B _ X Y (by omega) j1 (ho.mono (by omega)), j2⟩⟩
  case h0 =>
    intro X hX _
    have hWX : Below W.heap.size W X := hB2.trans (hX.mono (by omega))
    exact ⟨h0 X hWX, ⟨(hX.block _ (by omega)).trans y2, (hWX.block _ (by omega)).trans c0, (hWX.block _ (by omega)).trans c1, (hWX.block _ (by omega)).trans c2⟩, fun y hy => by cases hy⟩
  case assign =>
    intro l' x X K hK
    gi_wp2_with (rw [Oper.semAt_eq _ _ _ (fun c h => by cases h)]; go_simp; try go_bits)
    simpa using hK
  case body =>
    rintro l' B pre x X hB hBX hpre ⟨j1, ⟨d0, d1, d2, d3⟩, j2⟩
    obtain ⟨rfl, hx⟩ := snoc_range hpre
    have e0 := d0.cell
    have e1 := d1.cell
    have e2 := d2.cell
    have e3 := d3.cell
    by_cases hxE : (x : Int) = E
    · have hxe : ((x : Int) == E) = true := beq_iff_eq.2 hxE
      gi_wp2_with (rw [Oper.semAt_eq _ _ _ (fun c h => by cases h)]; go_simp; try go_bits)
      exact ⟨Keeps.refl _ _ _, Keeps.refl _ _ _, rfl, .inl ⟨List.range x, by rw [show E.toNat = x by omega], j1⟩⟩
    · have hxe : ((x : Int) == E) = false := beq_eq_false_iff_ne.2 hxE
      have hxE' : x < E.toNat := by
        rcases Nat.lt_trichotomy x E.toNat with h' | h' | h'
        · exact h'
        · omega
        · exact absurd (by omega) (j2 E.toNat (List.mem_range.2 h'))
      have hpre2 : (List.range x).map f ++ [f x] <+: xs := by
        rw [hL.out, ← List.map_singleton, ← List.map_append, ← List.range_succ]
        exact (range_pre _ _ hxE').map f
      obtain ⟨fn, tmps, assign, body, hy, hR⟩ := YieldAt.wide (m' := 6) (hY B ((List.range x).map f) (f x) X.drew (by omega) hBX hpre2 (hJ B _ _ _ (by omega) j1 (Outside.drew _ _ _)))
      have hsem := @Oper.semAt_some l'
      obtain ⟨R, hR', hRd⟩ : ∃ R : Bool → World → Prop, (RoundIn Fence.wide 6 Tryz.prog l fn tmps assign body X.drew fun e Y => ∃ bb : Bool, e = .returned (.bool bb) ∧ R bb Y) ∧
          (∀ bb Y, R bb Y → Keeps b (b + 3) X.drew Y ∧ Keeps W.heap.size B X.drew Y ∧ (if bb then J B ((List.range x).map f ++ [f x]) Y else Jx B ((List.range x).map f ++ [f x]) Y)) :=
        ⟨_, hR, fun bb Y h => h⟩
      have hax := hat x X.drew hx
      gi_wp2
      refine wpIn_mono (Q := fun e a Y => ∃ bb : Bool, e = .normal ∧ a = { tmps := #[.func (.yield l) #[] #[], .pointer (some ⟨b + 2, 0, none⟩), .pointer (some ⟨b, 0, none⟩), .pointer (some ⟨b + 1, 0, none⟩), .pointer (some ⟨W.heap.size, 0, none⟩), .int .i64 x, .int .i64 x, .bool !bb, .int .i64 x, .int .i64 E, .bool false, .func (.yield l) #[] #[], .int .u64 h, .int .i64 x, .int .i64 g, .int .i64 (f x), .bool bb, .bool !bb], defers := [] } ∧ R bb Y) ?_ ?_
      · clear hRd hR hat hY hL hB hBX d0 d1 d2 d3 hpre j1 j2 hxE hxe hxE' hpre2 hB2 hz2 y2 c0 c1 c2 hJ hJx h0 hK hz hfi he hb
        generalize f x = fx at *
        generalize W.heap.size = A at *
        gi_region_with_o (first
          | (refine ⟨trivial, ?_⟩; gi_at_call 101; refine (CallsIn.inRound l' (callsIn_wide.2 hax)).mono ?_; rintro e w' ⟨rfl, rfl⟩)
          | (refine (RoundIn.inRound hR').mono ?_; rintro e Y ⟨bb, rfl, hb⟩))
        all_goals exact ⟨bb, rfl, rfl, hb⟩
      · rintro e a Y ⟨bb, rfl, rfl, hbb⟩
        obtain ⟨k1, k2, hb'⟩ := hRd bb Y hbb
        clear hRd hbb hR hy hax hat hY
        have hsem := @Oper.semAt_some l'
        have k3 : Keeps W.heap.size B X Y := ⟨k2.size, k2.same⟩
        have k4 : Keeps W2.heap.size B X Y := k3.mono (by omega) (Nat.le_refl _)
        cases bb with
        | false =>
          rw [if_neg (by simp)] at hb'
          gi_wp2
          refine ⟨⟨k1.size, fun k _ h => by omega⟩, k4, rfl, .inr ⟨by rw [List.map_append]; exact hb', fun y hy => ?_⟩⟩
          rcases List.mem_append.1 hy with hy | hy
          · exact j2 y hy
          · rw [List.mem_singleton.1 hy]; exact hxE
        | true =>
          rw [if_pos rfl] at hb'
          gi_wp2
          refine ⟨⟨k1.size, fun k _ h => by omega⟩, k4, by rw [List.map_append]; exact hb', ⟨k2.box d0 (Nat.le_refl _) (by omega), k1.box d1 (by omega) (by omega), k1.box d2 (by omega) (by omega), k1.box d3 (by omega) (by omega)⟩, fun y hy => ?_⟩
          rcases List.mem_append.1 hy with hy | hy
          · exact j2 y hy
          · rw [List.mem_singleton.1 hy]; exact hxE
  case done =>
    rintro B X hB ⟨j1, _, j2⟩ hD
    have hE : E.toNat = 1024 := by
      rcases Nat.lt_or_ge E.toNat 1024 with h' | h'
      · exact absurd (by omega) (j2 E.toNat (List.mem_range.2 h'))
      · omega
    gi_wp2
    refine ⟨by simp, .inl ⟨_, _, rfl, run_takeDeferred hD, ?_⟩⟩
    refine ⟨_, results_none rfl _ _ _, ⟨_, rfl⟩, B, by omega, .inl (hJ B _ X _ (by omega) ?_ (Outside.putObj _ (by omega) hD rfl))⟩
    rw [hL.out, hE]
    exact j1
  case stop =>
    rintro B c pre X hB hpre ⟨rfl, hh⟩ hD
    obtain ⟨hp1, hp2⟩ := pre_range hpre
    gi_wp2
    refine ⟨by simp, .inl ⟨_, _, rfl, run_takeDeferred hD, ?_⟩⟩
    refine ⟨_, results_none rfl _ _ _, ⟨_, rfl⟩, B, by omega, ?_⟩
    rcases hh with ⟨q, hq, j1⟩ | ⟨j1, j2⟩
    · refine .inl (hJ B _ X _ (by omega) ?_ (Outside.putObj _ (by omega) hD rfl))
      subst hq
      rw [hL.out, ← (snoc_range hpre).1]
      exact j1
    · refine .inr ⟨pre.map f, ?_, hJx B _ X _ (by omega) j1 (Outside.putObj _ (by omega) hD rfl)⟩
      rw [hL.out]
      refine List.IsPrefix.map f ?_
      rw [hp1]
      refine range_pre _ _ ?_
      rcases Nat.lt_or_ge E.toNat pre.length with h' | h'
      · exact absurd (by omega) (j2 E.toNat (by rw [hp1]; exact List.mem_range.2 h'))
      · exact h'
end Go.Proofs.YthlghokgknkpaaaGreatDoor
