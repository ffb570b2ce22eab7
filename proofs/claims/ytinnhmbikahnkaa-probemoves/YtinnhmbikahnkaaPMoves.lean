/-
  The walk of corbellaw04.ProbeMoves.
-/
import Derived.Test.YtinnhmbikahnkaaP6
namespace Go.Proofs.Ytinnhmbikahnkaa
open Go.RowKit Go.Shelf

theorem pow_good : ∀ m : Fin 11, isGood ((2 : Int) ^ m.val) = true := by decide +kernel

theorem at_lo (h i g : Int) : 0 ≤ atI h i g := by
  unfold atI
  split <;> omega
theorem at_hi {h i g : Int} (hg : 1 ≤ g) : atI h i g < g := by
  unfold atI
  split
  · have : atN h.toNat i.toNat g.toNat < g.toNat := Nat.mod_lt _ (by omega)
    omega
  · omega
theorem at_step {h i g : Int} (hh : 0 ≤ h) (hg : isGood g = true) (h0 : 0 ≤ i) (h1 : i + 1 < g) : (atI h i g + i + 1) % g = atI h (i + 1) g := by
  rw [at_eq hh hg h0 (by omega), at_eq hh hg (by omega) h1, Int.add_assoc, Int.emod_add_emod]
  have e : (i + 1) * (i + 1 + 1) / 2 = i * (i + 1) / 2 + (i + 1) := by
    rw [show (i + 1) * (i + 1 + 1) = i * (i + 1) + (i + 1) * 2 by rw [Int.mul_comm i (i + 1), ← Int.mul_add, Int.add_assoc]; rfl]
    exact Int.add_mul_ediv_right _ _ (by decide)
  rw [e, ← Int.add_assoc (h % g)]

set_option maxRecDepth 10000 in
set_option maxHeartbeats 2000000 in
theorem probeMoves_any (h k : Int) (w : World) (hh : 0 ≤ h ∧ h ≤ 18446744073709551615) (hk : 0 ≤ k ∧ k ≤ 18446744073709551615) :
    Calls Try.prog 7 #[.int .u64 h, .int .u64 k] w fun e w' => e = .returned (.bool true) ∧ Below w.heap.size w w' := by
  obtain ⟨m, hm, hm10⟩ : ∃ m : Nat, k % 11 = (m : Int) ∧ m < 11 := ⟨(k % 11).toNat, by omega, by omega⟩
  have hg := pow_good ⟨m, hm10⟩
  have hr := good_range hg
  dsimp only at hg hr
  go_enter Try.func7, Try.ntmps7
  go_wp2_with fail
  rw [hm]
  clear hm
  generalize (2 : Int) ^ m = n at *
  have hz1 : Hid (atI h n n = 0) := at_zero (by omega)
  have hz2 : Hid (atI h (-1) n = 0) := at_zero (by omega)
  go_loop [6] (fun t => ∃ i : Nat, (i : Int) < n ∧ t = .int .i64 i) (fun t => n.toNat - (intOf t).toNat)
  case atStart => exact ⟨0, by omega, rfl⟩
  case round =>
    obtain ⟨i, hi, rfl⟩ := hrel
    by_cases hlt : (i : Int) + 1 < n
    · have hs := at_step (h := h) (by omega) hg (by omega) hlt
      have ha := fun X : World => at_any h i n X (by omega) (by omega) (by omega) (by omega) (by omega) (by omega)
      have hb := fun X : World => at_any h ((i : Int) + 1) n X (by omega) (by omega) (by omega) (by omega) (by omega) (by omega)
      have l1 := at_lo h i n
      have l2 := at_hi (h := h) (i := i) hr.1
      generalize atI h i n = a at *
      generalize atI h ((i : Int) + 1) n = b at *
      subst hs
      go_wp2_with fail
      refine (ha _).mono ?_
      rintro e w' ⟨rfl, rfl⟩
      go_wp2_with fail
      refine (hb _).mono ?_
      rintro e w' ⟨rfl, rfl⟩
      clear ha hb
      go_wp2
      go_round
      case rel => exact ⟨i + 1, by omega, by simp⟩
      case measure => simp only [intOf]; omega
    · obtain hin : (i : Int) + 1 = n := by omega
      go_wp2_with fail
      refine (at_any h n n _ (by omega) (by omega) (by omega) (by omega) (by omega) (by omega)).mono ?_
      rintro e w' ⟨rfl, rfl⟩
      rw [hz1.out]
      go_wp2_with fail
      refine (at_any h (-1) n _ (by omega) (by omega) (by omega) (by omega) (by omega) (by omega)).mono ?_
      rintro e w' ⟨rfl, rfl⟩
      rw [hz2.out]
      go_wp2_with fail
      refine (lives_any _).mono ?_
      rintro e w2 ⟨rfl, hb⟩
      go_wp2
      go_ret
      exact ⟨rfl, hb⟩
end Go.Proofs.Ytinnhmbikahnkaa
