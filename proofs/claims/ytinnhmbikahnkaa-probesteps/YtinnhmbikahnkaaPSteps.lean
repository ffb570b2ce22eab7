/-
  The walks of corbellaw04.ProbeSteps, ProbeNeeds.
-/
import Derived.Test.YtinnhmbikahnkaaP6
namespace Go.Proofs.Ytinnhmbikahnkaa
open Go.RowKit Go.Shelf

set_option maxRecDepth 10000 in
set_option maxHeartbeats 2000000 in
theorem probeSteps_any (h i g : Int) (w : World) (hh : 0 ≤ h ∧ h ≤ 18446744073709551615) (hi : -9223372036854775808 ≤ i ∧ i ≤ 9223372036854775807) (hg : -9223372036854775808 ≤ g ∧ g ≤ 9223372036854775807) :
    Calls Try.prog 4 #[.int .u64 h, .int .i64 i, .int .i64 g] w fun e w' => e = .returned (.bool true) ∧ Below w.heap.size w w' := by
  have hA := fun X : World => at_any h i g X (by omega) (by omega) (by omega) (by omega) (by omega) (by omega)
  have hB := fun X : World => rat_any h i g X (by omega) (by omega) (by omega) (by omega) (by omega) (by omega)
  have hC := fun X : World => need_any i X (by omega) (by omega)
  have hD := fun X : World => rneed_any i X (by omega) (by omega)
  generalize atI h i g = a at *
  generalize needI i = n at *
  go_enter Try.func4, Try.ntmps4
  go_wp2_with fail
  refine (hA _).mono ?_
  rintro e w' ⟨rfl, rfl⟩
  go_wp2_with fail
  refine (hB _).mono ?_
  rintro e w' ⟨rfl, rfl⟩
  go_wp2_with fail
  refine (hC _).mono ?_
  rintro e w' ⟨rfl, rfl⟩
  go_wp2_with fail
  refine (hD _).mono ?_
  rintro e w' ⟨rfl, rfl⟩
  go_wp2_with fail
  refine (lives_any _).mono ?_
  rintro e w2 ⟨rfl, hb⟩
  go_wp2
  go_ret
  exact ⟨rfl, hb⟩

theorem need_facts (n : Int) : (7168 < n → needI n = 0) ∧ (n ≤ 7168 → isGood (needI n) = true ∧ n ≤ 7 * needI n ∧ (needI n = 1 ∨ 7 * (needI n / 2) < n)) := by
  refine ⟨need_none, fun h => ?_⟩
  have key : ∀ q, UpTo q → q ≠ 2048 → (q = 1 ∨ 7 * q < 2 * n) → n ≤ 7 * q → isGood (needI n) = true ∧ n ≤ 7 * needI n ∧ (needI n = 1 ∨ 7 * (needI n / 2) < n) := fun q h1 h2 h3 h4 => by
    rw [need_at h1 h2 h3 h4]
    refine ⟨h1.good h2, h4, ?_⟩
    unfold UpTo at h1
    omega
  by_cases h0 : n ≤ 7
  · exact key 1 (by unfold UpTo; omega) (by omega) (by omega) (by omega)
  by_cases h1 : n ≤ 14
  · exact key 2 (by unfold UpTo; omega) (by omega) (by omega) (by omega)
  by_cases h2 : n ≤ 28
  · exact key 4 (by unfold UpTo; omega) (by omega) (by omega) (by omega)
  by_cases h3 : n ≤ 56
  · exact key 8 (by unfold UpTo; omega) (by omega) (by omega) (by omega)
  by_cases h4 : n ≤ 112
  · exact key 16 (by unfold UpTo; omega) (by omega) (by omega) (by omega)
  by_cases h5 : n ≤ 224
  · exact key 32 (by unfold UpTo; omega) (by omega) (by omega) (by omega)
  by_cases h6 : n ≤ 448
  · exact key 64 (by unfold UpTo; omega) (by omega) (by omega) (by omega)
  by_cases h7 : n ≤ 896
  · exact key 128 (by unfold UpTo; omega) (by omega) (by omega) (by omega)
  by_cases h8 : n ≤ 1792
  · exact key 256 (by unfold UpTo; omega) (by omega) (by omega) (by omega)
  by_cases h9 : n ≤ 3584
  · exact key 512 (by unfold UpTo; omega) (by omega) (by omega) (by omega)
  exact key 1024 (by unfold UpTo; omega) (by omega) (by omega) (by omega)

set_option maxRecDepth 10000 in
set_option maxHeartbeats 2000000 in
theorem probeNeeds_any (n : Int) (w : World) (hn : -9223372036854775808 ≤ n ∧ n ≤ 9223372036854775807) :
    Calls Try.prog 6 #[.int .i64 n] w fun e w' => e = .returned (.bool true) ∧ Below w.heap.size w w' := by
  have hC := fun X : World => need_any n X (by omega) (by omega)
  obtain ⟨f1, f2⟩ := need_facts n
  by_cases hgt : 7168 < n
  · rw [f1 hgt] at hC
    clear f1 f2
    go_enter Try.func6, Try.ntmps6
    go_wp2_with fail
    refine (hC _).mono ?_
    rintro e w' ⟨rfl, rfl⟩
    go_wp2_with fail
    refine (lives_any _).mono ?_
    rintro e w2 ⟨rfl, hb⟩
    go_wp2
    go_ret
    exact ⟨rfl, hb⟩
  · obtain ⟨g1, g2, g3⟩ := f2 (by omega)
    have g4 := good_range g1
    clear f1 f2
    generalize needI n = g at *
    by_cases h1 : g = 1
    · subst h1
      clear g3
      go_enter Try.func6, Try.ntmps6
      go_wp2_with fail
      refine (hC _).mono ?_
      rintro e w' ⟨rfl, rfl⟩
      go_wp2_with fail
      refine (good_any _ _ (by omega) (by omega)).mono ?_
      rintro e w' ⟨rfl, rfl⟩
      rw [g1]
      go_wp2_with fail
      refine (lives_any _).mono ?_
      rintro e w2 ⟨rfl, hb⟩
      go_wp2
      go_ret
      exact ⟨rfl, hb⟩
    · have g5 : 7 * (g / 2) < n := by omega
      have h1' : (g == 1) = false := beq_eq_false_iff_ne.2 h1
      clear g3 h1
      go_enter Try.func6, Try.ntmps6
      go_wp2_with fail
      refine (hC _).mono ?_
      rintro e w' ⟨rfl, rfl⟩
      go_wp2_with fail
      refine (good_any _ _ (by omega) (by omega)).mono ?_
      rintro e w' ⟨rfl, rfl⟩
      rw [g1]
      go_wp2_with fail
      refine (lives_any _).mono ?_
      rintro e w2 ⟨rfl, hb⟩
      go_wp2
      go_ret
      exact ⟨rfl, hb⟩
end Go.Proofs.Ytinnhmbikahnkaa
