/-
  The walk of GroupParts.
-/
import Derived.Test.YtnnenapmmfmgcaaDoorGLays
namespace Go.Proofs.YtnnenapmmfmgcaaDoor
open Go.RowKit

theorem st_testBit (m : Nat → Nat) (h : ∀ i, m i < 2) (i : Nat) : (st 8 m).testBit i = (decide (i < 8) && decide (m i = 1)) := by
  by_cases hi : i < 8
  · rw [Nat.testBit_eq_decide_div_mod_eq, st_bit 8 m h i hi]
    simp [hi]
  · rw [Nat.testBit_lt_two_pow (Nat.lt_of_lt_of_le (st_lt 8 m h) (Nat.pow_le_pow_right (by decide) (by omega)))]
    simp [hi]

theorem full_free (n : Nat) : fullN n &&& freeN n = 0 := by
  refine Nat.eq_of_testBit_eq fun i => ?_
  rw [Nat.testBit_and, Nat.zero_testBit]
  unfold fullN freeN
  rw [st_testBit _ (fun _ => ite_lt2 _), st_testBit _ (fun _ => ite_lt2 _)]
  by_cases h : byteN n i < 128
  · rw [if_neg (by omega : ¬ (byteN n i = 128 ∨ byteN n i = 254))]; simp
  · rw [if_neg h]; simp
theorem empty_free (n : Nat) : matchN n 128 &&& (255 - freeN n) = 0 := by
  have e : 255 - freeN n = 2 ^ 8 - (freeN n + 1) := by omega
  refine Nat.eq_of_testBit_eq fun i => ?_
  rw [e, Nat.testBit_and, Nat.zero_testBit, Nat.testBit_two_pow_sub_succ (freeN_lt n)]
  unfold matchN freeN
  rw [st_testBit _ (fun _ => ite_lt2 _), st_testBit _ (fun _ => ite_lt2 _)]
  by_cases h : byteN n i = 128
  · rw [if_pos h, if_pos (.inl h)]; simp
  · rw [if_neg h]; simp
/-- Those that are full, empty or deleted. -/
def someN (n : Nat) : Nat := st 8 (fun i => if byteN n i < 128 ∨ byteN n i = 128 ∨ byteN n i = 254 then 1 else 0)
theorem some_eq (n : Nat) : (fullN n ||| freeN n) = someN n := by
  unfold fullN freeN someN
  rw [st_join 8 _ _ (fun _ => ite_lt2 _) (fun _ => ite_lt2 _)]
  refine st_congr 8 _ _ fun i _ => ?_
  by_cases h1 : byteN n i < 128
  · rw [if_pos h1, if_neg (by omega), if_pos (.inl h1)]; rfl
  · rw [if_neg h1]
    by_cases h2 : byteN n i = 128 ∨ byteN n i = 254
    · rw [if_pos h2, if_pos (.inr h2)]; rfl
    · rw [if_neg h2, if_neg (by omega)]; rfl
theorem someN_lt (n : Nat) : someN n < 256 := st_lt 8 _ (fun _ => ite_lt2 _)
theorem some_bit (n j : Nat) (hj : j < 8) : bits .and .u8 ((someN n : Int) / 2 ^ j) 1 = ((if byteN n j < 128 ∨ byteN n j = 128 ∨ byteN n j = 254 then 1 else 0 : Nat) : Int) := by
  rw [bit_u8 _ j (someN_lt n)]
  unfold someN
  rw [st_bit 8 _ (fun _ => ite_lt2 _) j hj]

theorem full_none (w : World) : Calls Tryd.prog 19 #[.int .u64 9259542123273814144] w fun e w' => e = .returned (.int .u8 0) ∧ w' = w := by
  have h := full_any 9259542123273814144 w (by decide)
  rw [show fullN 9259542123273814144 = 0 by decide +kernel] at h
  exact h
theorem empties_none (w : World) : Calls Tryd.prog 16 #[.int .u64 9259542123273814144] w fun e w' => e = .returned (.int .u8 255) ∧ w' = w := by
  have h := empties_any 9259542123273814144 w (by decide)
  rw [show matchN 9259542123273814144 128 = 255 by decide +kernel] at h
  exact h

set_option maxRecDepth 10000 in
set_option maxHeartbeats 2000000 in
theorem groupParts_any (wd : Int) (w : World) (hT : Tab w) (hw : 0 ≤ wd ∧ wd ≤ 18446744073709551615) :
    Calls Tryd.prog 7 #[.int .u64 wd] w fun e w' => e = .returned (.bool true) ∧ Below w.heap.size w w' := by
  obtain ⟨n, rfl⟩ := Int.eq_ofNat_of_zero_le hw.1
  have hn : n < 18446744073709551616 := by omega
  clear hw
  have f1 : bits .and .u8 (fullN n : Int) (freeN n : Int) = 0 := by rw [u8_and_nat _ _ (fullN_lt n) (freeN_lt n), full_free]; rfl
  have f2 : bits .andNot .u8 (matchN n 128 : Int) (freeN n : Int) = 0 := by rw [u8_andNot_nat _ _ (matchN_lt n 128) (freeN_lt n), empty_free]; rfl
  have f3 : bits .or .u8 (fullN n : Int) (freeN n : Int) = (someN n : Int) := by rw [u8_or_nat _ _ (fullN_lt n) (freeN_lt n), some_eq]
  have hb : Hid (∀ j, j < 8 → bits .and .u8 ((someN n : Int) / 2 ^ j) 1 = ((if byteN n j < 128 ∨ byteN n j = 128 ∨ byteN n j = 254 then 1 else 0 : Nat) : Int)) := some_bit n
  have l1 := fullN_lt n
  have l2 := freeN_lt n
  have l3 := someN_lt n
  go_enter Tryd.func7, Tryd.ntmps7
  go_wp2_with fail
  refine same_mono (full_any n _ hn) ?_
  go_wp2_with fail
  refine same_mono (free_any n _ hn) ?_
  go_wp2_with fail
  refine same_mono (empties_any n _ hn) ?_
  generalize fullN n = fu at *
  generalize freeN n = fr at *
  generalize matchN n 128 = em at *
  generalize someN n = so at *
  go_wp2_with fail
  clear f1 f2
  go_loop [5] (fun t => ∃ j : Nat, j ≤ 8 ∧ t = .int .i64 j) (fun t => 8 - (intOf t).toNat)
  case atStart => exact ⟨0, by decide, rfl⟩
  case round =>
    obtain ⟨j, hj, rfl⟩ := hrel
    by_cases hlt : j < 8
    · have hx := hb.out j hlt
      go_wp2_with fail
      refine same_mono (get_at n j rfl hlt _ hn) ?_
      have hy := byteN_lt n j
      generalize byteN n j = y at *
      by_cases h1 : y < 128
      · rw [if_pos (.inl h1)] at hx
        have g1 : (y : Int) < 128 := by omega
        clear h1
        go_wp2
        exact ⟨⟨j + 1, by omega, rfl⟩, by simp only [intOf]; omega⟩
      · by_cases h2 : y = 128
        · rw [if_pos (.inr (.inl h2))] at hx
          subst h2
          clear h1
          go_wp2
          exact ⟨⟨j + 1, by omega, rfl⟩, by simp only [intOf]; omega⟩
        · by_cases h3 : y = 254
          · rw [if_pos (.inr (.inr h3))] at hx
            subst h3
            clear h1
            go_wp2
            exact ⟨⟨j + 1, by omega, rfl⟩, by simp only [intOf]; omega⟩
          · rw [if_neg (by omega)] at hx
            have g1 : ¬ (y : Int) < 128 := by omega
            have g2 : ((y : Int) == 128) = false := beq_false_of_ne (by omega)
            have g3 : ((y : Int) == 254) = false := beq_false_of_ne (by omega)
            clear h1 h2 h3
            go_wp2
            exact ⟨⟨j + 1, by omega, rfl⟩, by simp only [intOf]; omega⟩
    · obtain rfl : j = 8 := by omega
      go_wp2_with fail
      refine same_mono (full_none _) ?_
      go_wp2_with fail
      refine same_mono (empties_none _) ?_
      go_wp2_with fail
      refine (lives_any _ hT).mono ?_
      rintro e w3 ⟨rfl, hb3⟩
      go_wp2
      go_ret
      exact ⟨rfl, hb3⟩
end Go.Proofs.YtnnenapmmfmgcaaDoor
