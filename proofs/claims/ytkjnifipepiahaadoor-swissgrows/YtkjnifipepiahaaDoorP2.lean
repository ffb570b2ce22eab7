/-
  Contracts: probe.At and the document's At.
-/
import Derived.Test.YtkjnifipepiahaaDoorP1
namespace Go.Proofs.YtkjnifipepiahaaDoor
open Go.RowKit

theorem prod_le {i : Int} (h0 : 0 ≤ i) (h1 : i ≤ 1023) : 0 ≤ i * (i + 1) ∧ i * (i + 1) ≤ 1047552 := by
  constructor
  · exact Int.mul_nonneg h0 (by omega)
  · calc i * (i + 1) ≤ 1023 * (i + 1) := Int.mul_le_mul_of_nonneg_right h1 (by omega)
      _ ≤ 1047552 := by omega

theorem at_eq {h i g : Int} (hh : 0 ≤ h) (hg : isGood g = true) (h0 : 0 ≤ i) (h1 : i < g) : atI h i g = (h % g + i * (i + 1) / 2) % g := by
  have hr := good_range hg
  unfold atI
  rw [if_pos ⟨hg, h0, h1⟩]
  unfold atN
  have e1 : ((h.toNat : Nat) : Int) = h := by omega
  have e2 : ((i.toNat : Nat) : Int) = i := by omega
  have e3 : ((g.toNat : Nat) : Int) = g := by omega
  rw [Int.natCast_emod, Int.natCast_add, Int.natCast_emod, Int.natCast_ediv, Int.natCast_mul, Int.natCast_add, e1, e2, e3]
  rfl
theorem at_zero {h i g : Int} (hn : ¬ (isGood g = true ∧ 0 ≤ i ∧ i < g)) : atI h i g = 0 := by unfold atI; rw [if_neg hn]

set_option maxRecDepth 10000 in
set_option maxHeartbeats 1000000 in
theorem at_any (h i g : Int) (w : World) (hh0 : 0 ≤ h) (hh1 : h < 18446744073709551616) (hi1 : -9223372036854775808 ≤ i) (hi2 : i < 9223372036854775808) (h1 : -9223372036854775808 ≤ g) (h2 : g < 9223372036854775808) :
    Calls Tryd.prog 99 #[.int .u64 h, .int .i64 i, .int .i64 g] w fun e w' => e = .returned (.int .i64 (atI h i g)) ∧ w' = w := by
  by_cases hn : isGood g = true ∧ 0 ≤ i ∧ i < g
  · obtain ⟨hg, h0, hlt⟩ := hn
    have hr := good_range hg
    have hp := prod_le h0 (by omega)
    have ha : Hid (atI h i g = (h % g + i * (i + 1) / 2) % g) := at_eq hh0 hg h0 hlt
    have hm0 : 0 ≤ h % g := Int.emod_nonneg _ (by omega)
    have hm1 : h % g < g := Int.emod_lt_of_pos _ (by omega)
    go_enter Tryd.func99, Tryd.ntmps99
    go_wp2_with (go_at_call 78; refine (good_any _ _ (by omega) (by omega)).mono ?_; rintro e w' ⟨rfl, rfl⟩; rw [hg])
    go_ret
    refine ⟨?_, rfl⟩
    rw [ha.out]
    rfl
  · have ha : Hid (atI h i g = 0) := at_zero hn
    by_cases hg : isGood g = true
    · by_cases h0 : 0 ≤ i
      · have hlt : g ≤ i := by
          have : ¬ i < g := fun h' => hn ⟨hg, h0, h'⟩
          omega
        clear hn
        go_enter Tryd.func99, Tryd.ntmps99
        go_wp2_with (go_at_call 78; refine (good_any _ _ (by omega) (by omega)).mono ?_; rintro e w' ⟨rfl, rfl⟩; rw [hg])
        go_ret
        refine ⟨?_, rfl⟩
        rw [ha.out]
        rfl
      · clear hn
        go_enter Tryd.func99, Tryd.ntmps99
        go_wp2_with (go_at_call 78; refine (good_any _ _ (by omega) (by omega)).mono ?_; rintro e w' ⟨rfl, rfl⟩; rw [hg])
        go_ret
        refine ⟨?_, rfl⟩
        rw [ha.out]
        rfl
    · have hg' : isGood g = false := by cases e : isGood g with
        | false => rfl
        | true => exact absurd e hg
      clear hn hg
      go_enter Tryd.func99, Tryd.ntmps99
      go_wp2_with (go_at_call 78; refine (good_any _ _ (by omega) (by omega)).mono ?_; rintro e w' ⟨rfl, rfl⟩; rw [hg'])
      go_ret
      refine ⟨?_, rfl⟩
      rw [ha.out]
      rfl

set_option maxRecDepth 10000 in
set_option maxHeartbeats 1000000 in
theorem rat_any (h i g : Int) (w : World) (hh0 : 0 ≤ h) (hh1 : h < 18446744073709551616) (hi1 : -9223372036854775808 ≤ i) (hi2 : i < 9223372036854775808) (h1 : -9223372036854775808 ≤ g) (h2 : g < 9223372036854775808) :
    Calls Tryd.prog 105 #[.int .u64 h, .int .i64 i, .int .i64 g] w fun e w' => e = .returned (.int .i64 (atI h i g)) ∧ w' = w := by
  by_cases hn : isGood g = true ∧ 0 ≤ i ∧ i < g
  · obtain ⟨hg, h0, hlt⟩ := hn
    have hr := good_range hg
    have hp := prod_le h0 (by omega)
    have ha : Hid (atI h i g = (h % g + i * (i + 1) / 2) % g) := at_eq hh0 hg h0 hlt
    have hm0 : 0 ≤ h % g := Int.emod_nonneg _ (by omega)
    have hm1 : h % g < g := Int.emod_lt_of_pos _ (by omega)
    have hs0 : 0 ≤ (h % g + i * (i + 1) / 2) % g := Int.emod_nonneg _ (by omega)
    have hs1 : (h % g + i * (i + 1) / 2) % g < g := Int.emod_lt_of_pos _ (by omega)
    go_enter Tryd.func105, Tryd.ntmps105
    go_wp2_with (go_at_call 104; refine (rgood_any _ _ (by omega) (by omega)).mono ?_; rintro e w' ⟨rfl, rfl⟩; rw [hg])
    go_ret
    refine ⟨?_, rfl⟩
    rw [ha.out]
    show Ending.returned (.int .i64 (wrap64 ((h + i * (i + 1) / 2) % g))) = _
    rw [← Int.emod_add_emod, IntWalk.wrap64_in _ ⟨by omega, by omega⟩]
  · have ha : Hid (atI h i g = 0) := at_zero hn
    by_cases hg : isGood g = true
    · by_cases h0 : 0 ≤ i
      · have hlt : g ≤ i := by
          have : ¬ i < g := fun h' => hn ⟨hg, h0, h'⟩
          omega
        clear hn
        go_enter Tryd.func105, Tryd.ntmps105
        go_wp2_with (go_at_call 104; refine (rgood_any _ _ (by omega) (by omega)).mono ?_; rintro e w' ⟨rfl, rfl⟩; rw [hg])
        go_ret
        refine ⟨?_, rfl⟩
        rw [ha.out]
        rfl
      · clear hn
        go_enter Tryd.func105, Tryd.ntmps105
        go_wp2_with (go_at_call 104; refine (rgood_any _ _ (by omega) (by omega)).mono ?_; rintro e w' ⟨rfl, rfl⟩; rw [hg])
        go_ret
        refine ⟨?_, rfl⟩
        rw [ha.out]
        rfl
    · have hg' : isGood g = false := by cases e : isGood g with
        | false => rfl
        | true => exact absurd e hg
      clear hn hg
      go_enter Tryd.func105, Tryd.ntmps105
      go_wp2_with (go_at_call 104; refine (rgood_any _ _ (by omega) (by omega)).mono ?_; rintro e w' ⟨rfl, rfl⟩; rw [hg'])
      go_ret
      refine ⟨?_, rfl⟩
      rw [ha.out]
      rfl
end Go.Proofs.YtkjnifipepiahaaDoor
