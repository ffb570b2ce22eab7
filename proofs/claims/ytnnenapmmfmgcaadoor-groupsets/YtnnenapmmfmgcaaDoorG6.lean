/-
  Contracts: corbelref03.First, Next, Count.
-/
import Derived.Test.YtnnenapmmfmgcaaDoorG5
namespace Go.Proofs.YtnnenapmmfmgcaaDoor
open Go.RowKit

theorem bit_u8 (m k : Nat) (hm : m < 256) : bits .and .u8 ((m : Int) / 2 ^ k) 1 = ((m / 2 ^ k % 2 : Nat) : Int) := by
  have e : ((m : Int) / 2 ^ k) = ((m / 2 ^ k : Nat) : Int) := by rw [Int.natCast_ediv, Int.natCast_pow]; rfl
  rw [e, show (1 : Int) = ((1 : Nat) : Int) from rfl, u8_and_nat _ 1 (Nat.lt_of_le_of_lt (Nat.div_le_self _ _) hm) (by decide), nat_mask1]

/-- The lowest slot, as the loop finds it. -/
theorem first_at : ∀ s : Fin 256, ∀ j : Fin 8, (∀ i : Fin 8, i.val < j.val → s.val / 2 ^ i.val % 2 = 0) → s.val / 2 ^ j.val % 2 = 1 → firstN s.val = j.val := by decide +kernel
theorem first_none : ∀ s : Fin 256, (∀ i : Fin 8, s.val / 2 ^ i.val % 2 = 0) → firstN s.val = 8 := by decide +kernel

set_option maxRecDepth 10000 in
set_option maxHeartbeats 1000000 in
theorem rfirst_any (s : Nat) (w : World) (hs : s < 256) : Calls Tryd.prog 22 #[.int .u8 s] w fun e w' => e = .returned (.int .i64 (firstN s : Nat)) ∧ w' = w := by
  go_enter Tryd.func22, Tryd.ntmps22
  go_wp2
  go_loop [3] (fun t => ∃ j : Nat, j ≤ 8 ∧ t = .int .i64 j ∧ Hid (∀ i : Fin 8, i.val < j → s / 2 ^ i.val % 2 = 0)) (fun t => 8 - (intOf t).toNat)
  case atStart => exact ⟨0, by decide, rfl, fun i hi => absurd hi (Nat.not_lt_zero _)⟩
  case round =>
    obtain ⟨j, hj, rfl, hz⟩ := hrel
    by_cases hlt : j < 8
    · have hb := bit_u8 s j hs
      by_cases hx : s / 2 ^ j % 2 = 1
      · have hf : Hid (firstN s = j) := first_at ⟨s, hs⟩ ⟨j, hlt⟩ hz.out hx
        rw [hx] at hb
        clear hx
        go_wp2
        go_ret
        refine ⟨?_, rfl⟩
        rw [hf.out]
        rfl
      · have hx0 : s / 2 ^ j % 2 = 0 := by omega
        rw [hx0] at hb
        have hz2 : Hid (∀ i : Fin 8, i.val < j + 1 → s / 2 ^ i.val % 2 = 0) := fun i hi => by
          by_cases e : i.val = j
          · rw [e]; exact hx0
          · exact hz.out i (by omega)
        clear hx hx0
        go_wp2
        refine ⟨⟨j + 1, by omega, rfl, hz2⟩, by simp only [intOf]; omega⟩
    · obtain rfl : j = 8 := by omega
      have hf : Hid (firstN s = 8) := first_none ⟨s, hs⟩ (fun i => hz.out i i.isLt)
      go_wp2
      go_ret
      refine ⟨?_, rfl⟩
      rw [hf.out]
      rfl

theorem next_at : ∀ s : Fin 256, s.val ≠ 0 → firstN s.val < 8 ∧ (s.val &&& (255 - 2 ^ firstN s.val)) = nextN s.val := by decide +kernel
theorem next_u8 (s : Nat) (hs : s < 256) (h0 : s ≠ 0) : bits .andNot .u8 (s : Int) (2 ^ firstN s % 256) = (nextN s : Nat) := by
  obtain ⟨h1, h2⟩ := next_at ⟨s, hs⟩ h0
  dsimp only at h1 h2
  have hp : 2 ^ firstN s ≤ 128 := (by decide : ∀ j : Fin 8, 2 ^ j.val ≤ 128) ⟨firstN s, h1⟩
  rw [← pow_u8 _ h1, u8_andNot_nat s _ hs (by omega), h2]

set_option maxRecDepth 10000 in
set_option maxHeartbeats 1000000 in
theorem rnext_any (s : Nat) (w : World) (hs : s < 256) : Calls Tryd.prog 24 #[.int .u8 s] w fun e w' => e = .returned (.int .u8 (nextN s : Nat)) ∧ w' = w := by
  by_cases h0 : s = 0
  · subst h0
    go_enter Tryd.func24, Tryd.ntmps24
    go_wp2
    go_ret
    exact ⟨by rw [show nextN 0 = 0 by decide]; rfl, rfl⟩
  · have e1 := next_u8 s hs h0
    have h1 := (next_at ⟨s, hs⟩ h0).1
    dsimp only at h1
    go_enter Tryd.func24, Tryd.ntmps24
    go_wp2_with fail
    refine same_mono (rfirst_any s _ hs) ?_
    generalize firstN s = f at *
    go_wp2
    go_ret
    exact ⟨rfl, rfl⟩

/-- How many there are below a slot. -/
def cntU (s j : Nat) : Nat := ((List.range j).filter fun i => s / 2 ^ i % 2 = 1).length
theorem cntU_succ (s j : Nat) : cntU s (j + 1) = cntU s j + s / 2 ^ j % 2 := by
  unfold cntU
  rw [List.range_succ, List.filter_append, List.length_append]
  congr 1
  by_cases h : s / 2 ^ j % 2 = 1
  · rw [h]; simp [h]
  · have : s / 2 ^ j % 2 = 0 := by omega
    rw [this]; simp [this]
theorem cntU_le (s j : Nat) : cntU s j ≤ j := by
  have := List.length_filter_le (fun i => decide (s / 2 ^ i % 2 = 1)) (List.range j)
  rw [List.length_range] at this
  exact this

set_option maxRecDepth 10000 in
set_option maxHeartbeats 1000000 in
theorem rcount_any (s : Nat) (w : World) (hs : s < 256) : Calls Tryd.prog 26 #[.int .u8 s] w fun e w' => e = .returned (.int .i64 ((slotsL s).length : Nat)) ∧ w' = w := by
  go_enter Tryd.func26, Tryd.ntmps26
  go_wp2
  go_loop [3, 4] (fun o t => ∃ j : Nat, j ≤ 8 ∧ t = .int .i64 j ∧ o = .int .i64 (cntU s j : Nat)) (fun _ t => 8 - (intOf t).toNat)
  case atStart => exact ⟨0, by decide, rfl, rfl⟩
  case round =>
    obtain ⟨j, hj, rfl, rfl⟩ := hrel
    by_cases hlt : j < 8
    · have hb := bit_u8 s j hs
      have hc : Hid (cntU s (j + 1) = cntU s j + s / 2 ^ j % 2) := cntU_succ s j
      have hl := cntU_le s j
      have hy : s / 2 ^ j % 2 < 2 := Nat.mod_lt _ (by decide)
      generalize s / 2 ^ j % 2 = y at *
      generalize cntU s j = o at *
      go_wp2
      refine ⟨⟨j + 1, by omega, rfl, by rw [hc.out]; rfl⟩, by simp only [intOf]; omega⟩
    · obtain rfl : j = 8 := by omega
      have hf : Hid (cntU s 8 = (slotsL s).length) := rfl
      go_wp2
      go_ret
      exact ⟨by rw [← hf.out]; rfl, rfl⟩
end Go.Proofs.YtnnenapmmfmgcaaDoor
