/-
  Contracts: probe.Good, probe.At, probe.Need, and the document's Good, At, Need.
-/
import Derived.Test.YtkjnifipepiahaaDoorChecked
import Derived.WalkKit
import Derived.ProofKit
namespace Go.Proofs.YtkjnifipepiahaaDoor
open Go.RowKit

/-- The counts of groups that are good. -/
def pows : List Int := [1, 2, 4, 8, 16, 32, 64, 128, 256, 512, 1024]
def isGood (g : Int) : Bool := decide (g ∈ pows)
theorem good_range {g : Int} (h : isGood g = true) : 1 ≤ g ∧ g ≤ 1024 := by
  have h' : g ∈ pows := of_decide_eq_true h
  simp [pows] at h'
  omega
theorem good_out {g : Int} (h : g < 1 ∨ 1024 < g) : isGood g = false := by
  cases e : isGood g with
  | false => rfl
  | true => have := good_range e; omega
theorem good_bits_fin : ∀ n : Fin 1025, 1 ≤ n.val → (bits .and .i64 (n.val : Int) ((n.val : Int) - 1) == 0) = isGood n.val := by decide +kernel
theorem good_bits {g : Int} (h1 : 1 ≤ g) (h2 : g ≤ 1024) : (bits .and .i64 g (g - 1) == 0) = isGood g := by
  have := good_bits_fin ⟨g.toNat, by omega⟩ (by show 1 ≤ g.toNat; omega)
  have e : ((g.toNat : Nat) : Int) = g := by omega
  dsimp only at this
  rw [e] at this
  exact this

set_option maxHeartbeats 1000000 in
theorem good_any (g : Int) (w : World) (h1 : -9223372036854775808 ≤ g) (h2 : g < 9223372036854775808) : Calls Tryd.prog 78 #[.int .i64 g] w fun e w' => e = .returned (.bool (isGood g)) ∧ w' = w := by
  by_cases hl : g < 1
  · have e1 := good_out (.inl hl)
    go_enter Tryd.func78, Tryd.ntmps78
    go_wp2
    go_ret
    exact ⟨rfl, rfl⟩
  · by_cases hr : 1024 < g
    · have e1 := good_out (.inr hr)
      go_enter Tryd.func78, Tryd.ntmps78
      go_wp2
      go_ret
      exact ⟨rfl, rfl⟩
    · have e1 := good_bits (g := g) (by omega) (by omega)
      go_enter Tryd.func78, Tryd.ntmps78
      go_wp2
      go_ret
      exact ⟨by rw [← e1]; rfl, rfl⟩

/-- What a count of groups is doubled to, the first one behind the last good one included. -/
def UpTo (q : Int) : Prop := q = 1 ∨ q = 2 ∨ q = 4 ∨ q = 8 ∨ q = 16 ∨ q = 32 ∨ q = 64 ∨ q = 128 ∨ q = 256 ∨ q = 512 ∨ q = 1024 ∨ q = 2048
theorem UpTo.one : UpTo 1 := .inl rfl
theorem UpTo.next {q : Int} (h : UpTo q) (hq : q ≠ 2048) : UpTo (q * 2) := by unfold UpTo at *; omega
theorem UpTo.good {q : Int} (h : UpTo q) (hq : q ≠ 2048) : isGood q = true := by
  refine decide_eq_true ?_
  unfold UpTo at h
  simp only [pows, List.mem_cons, List.not_mem_nil, or_false]
  omega
theorem UpTo.range {q : Int} (h : UpTo q) : 1 ≤ q ∧ q ≤ 2048 := by unfold UpTo at h; omega
theorem good_mem {g : Int} (h : isGood g = true) : g = 1 ∨ g = 2 ∨ g = 4 ∨ g = 8 ∨ g = 16 ∨ g = 32 ∨ g = 64 ∨ g = 128 ∨ g = 256 ∨ g = 512 ∨ g = 1024 := by
  have h' : g ∈ pows := of_decide_eq_true h
  simpa [pows] using h'

/-- How many groups so many keys need. -/
def needI (n : Int) : Int :=
  if n ≤ 7 then 1 else if n ≤ 14 then 2 else if n ≤ 28 then 4 else if n ≤ 56 then 8 else if n ≤ 112 then 16 else if n ≤ 224 then 32 else if n ≤ 448 then 64 else if n ≤ 896 then 128
  else if n ≤ 1792 then 256 else if n ≤ 3584 then 512 else if n ≤ 7168 then 1024 else 0
theorem need_at {n q : Int} (h : UpTo q) (hq : q ≠ 2048) (h1 : q = 1 ∨ 7 * q < 2 * n) (h2 : n ≤ 7 * q) : needI n = q := by
  unfold needI
  unfold UpTo at h
  rcases h with rfl | rfl | rfl | rfl | rfl | rfl | rfl | rfl | rfl | rfl | rfl | rfl <;>
    first
    | exact absurd rfl hq
    | (repeat first | rw [if_pos (by omega)] | rw [if_neg (by omega)])
theorem need_none {n : Int} (h : 7168 < n) : needI n = 0 := by
  unfold needI
  repeat rw [if_neg (by omega)]

set_option maxRecDepth 10000 in
set_option maxHeartbeats 1000000 in
theorem rgood_any (g : Int) (w : World) (h1 : -9223372036854775808 ≤ g) (h2 : g < 9223372036854775808) : Calls Tryd.prog 104 #[.int .i64 g] w fun e w' => e = .returned (.bool (isGood g)) ∧ w' = w := by
  go_enter Tryd.func104, Tryd.ntmps104
  go_wp2
  go_loop [3] (fun t => ∃ q : Int, t = .int .i64 q ∧ Hid (UpTo q) ∧ Hid (∀ p ∈ pows, p < q → p ≠ g)) (fun t => 2048 - (intOf t).toNat)
  case atStart => exact ⟨1, rfl, UpTo.one, fun p hp hlt => by simp [pows] at hp; omega⟩
  case round =>
    obtain ⟨q, rfl, hu, hz⟩ := hrel
    have hr := hu.out.range
    by_cases hq : q = 2048
    · subst hq
      have hf : Hid (isGood g = false) := decide_eq_false fun hg => hz.out g hg (by have := good_range (decide_eq_true hg : isGood g = true); omega) rfl
      go_wp2
      go_ret
      exact ⟨by rw [hf.out]; rfl, rfl⟩
    · have hlt : q ≤ 1024 := by have := hu.out; unfold UpTo at this; omega
      by_cases he : q = g
      · subst he
        have hf : Hid (isGood q = true) := hu.out.good hq
        go_wp2
        go_ret
        exact ⟨by rw [hf.out]; rfl, rfl⟩
      · have hn : Hid (UpTo (q * 2)) := hu.out.next hq
        have hz2 : Hid (∀ p ∈ pows, p < q * 2 → p ≠ g) := fun p hp hlt => by
          by_cases hpq : p < q
          · exact hz.out p hp hpq
          · have hpm : isGood p = true := decide_eq_true hp
            have := good_mem hpm
            have := hu.out
            unfold UpTo at this
            omega
        go_wp2
        refine ⟨⟨q * 2, rfl, hn, hz2⟩, by simp only [intOf]; omega⟩

set_option maxRecDepth 10000 in
set_option maxHeartbeats 1000000 in
theorem need_any (n : Int) (w : World) (h1 : -9223372036854775808 ≤ n) (h2 : n < 9223372036854775808) : Calls Tryd.prog 46 #[.int .i64 n] w fun e w' => e = .returned (.int .i64 (needI n)) ∧ w' = w := by
  go_enter Tryd.func46, Tryd.ntmps46
  go_wp2
  go_loop [3] (fun t => ∃ q : Int, t = .int .i64 q ∧ Hid (UpTo q) ∧ Hid (q = 1 ∨ 7 * q < 2 * n)) (fun t => 2048 - (intOf t).toNat)
  case atStart => exact ⟨1, rfl, UpTo.one, .inl rfl⟩
  case round =>
    obtain ⟨q, rfl, hu, hz⟩ := hrel
    have hr := hu.out.range
    by_cases hq : q = 2048
    · subst hq
      have hf : Hid (needI n = 0) := need_none (by have := hz.out; omega)
      have hg : isGood 2048 = false := by decide
      go_wp2_with (go_at_call 78; refine (good_any _ _ (by omega) (by omega)).mono ?_; rintro e w' ⟨rfl, rfl⟩; rw [hg])
      go_ret
      exact ⟨by rw [hf.out]; rfl, rfl⟩
    · have hlt : q ≤ 1024 := by have := hu.out; unfold UpTo at this; omega
      have hg := hu.out.good hq
      by_cases he : n ≤ 7 * q
      · have hf : Hid (needI n = q) := need_at hu.out hq hz.out he
        go_wp2_with (go_at_call 78; refine (good_any _ _ (by omega) (by omega)).mono ?_; rintro e w' ⟨rfl, rfl⟩; rw [hg])
        go_ret
        exact ⟨by rw [hf.out]; rfl, rfl⟩
      · have hn : Hid (UpTo (q * 2)) := hu.out.next hq
        have hz2 : Hid (q * 2 = 1 ∨ 7 * (q * 2) < 2 * n) := .inr (by omega)
        go_wp2_with (go_at_call 78; refine (good_any _ _ (by omega) (by omega)).mono ?_; rintro e w' ⟨rfl, rfl⟩; rw [hg])
        refine ⟨⟨q * 2, rfl, hn, hz2⟩, by simp only [intOf]; omega⟩

set_option maxRecDepth 10000 in
set_option maxHeartbeats 1000000 in
theorem rneed_any (n : Int) (w : World) (h1 : -9223372036854775808 ≤ n) (h2 : n < 9223372036854775808) : Calls Tryd.prog 48 #[.int .i64 n] w fun e w' => e = .returned (.int .i64 (needI n)) ∧ w' = w := by
  go_enter Tryd.func48, Tryd.ntmps48
  go_wp2
  go_loop [3] (fun t => ∃ q : Int, t = .int .i64 q ∧ Hid (UpTo q) ∧ Hid (q = 1 ∨ 7 * q < 2 * n)) (fun t => 2048 - (intOf t).toNat)
  case atStart => exact ⟨1, rfl, UpTo.one, .inl rfl⟩
  case round =>
    obtain ⟨q, rfl, hu, hz⟩ := hrel
    have hr := hu.out.range
    by_cases hq : q = 2048
    · subst hq
      have hf : Hid (needI n = 0) := need_none (by have := hz.out; omega)
      go_wp2
      go_ret
      exact ⟨by rw [hf.out]; rfl, rfl⟩
    · have hlt : q ≤ 1024 := by have := hu.out; unfold UpTo at this; omega
      by_cases he : n ≤ 7 * q
      · have hf : Hid (needI n = q) := need_at hu.out hq hz.out he
        go_wp2
        go_ret
        exact ⟨by rw [hf.out]; rfl, rfl⟩
      · have hn : Hid (UpTo (q * 2)) := hu.out.next hq
        have hz2 : Hid (q * 2 = 1 ∨ 7 * (q * 2) < 2 * n) := .inr (by omega)
        go_wp2
        refine ⟨⟨q * 2, rfl, hn, hz2⟩, by simp only [intOf]; omega⟩

/-- The group at a step. -/
def atN (h i g : Nat) : Nat := (h % g + i * (i + 1) / 2) % g
def atI (h i g : Int) : Int := if isGood g = true ∧ 0 ≤ i ∧ i < g then (atN h.toNat i.toNat g.toNat : Nat) else 0

end Go.Proofs.YtkjnifipepiahaaDoor
