/-
  The walk of QuorumGrows.
-/
import Derived.Test.YtjaoljhbnbaeaaaQaI
import Derived.Deep.RegionHeld3
namespace Go.Proofs.Ytjaoljhbnbaeaaa
open Go.RowKit Go.Shelf

theorem won_values (yes no n : Int) : wonI yes no n = 0 ∨ wonI yes no n = 1 ∨ wonI yes no n = 2 := by
  unfold wonI; repeat' split
  all_goals simp
theorem won_one {yes no n : Int} (h : 1 ≤ n) : wonI yes no n = 1 ↔ n / 2 + 1 ≤ yes := by
  unfold wonI
  rw [if_neg (by omega), majI_high (by omega)]
  split
  · simp; omega
  · split <;> simp <;> omega
theorem won_zero {yes no n : Int} (h : 1 ≤ n) : wonI yes no n = 0 ↔ yes < n / 2 + 1 ∧ n / 2 + 1 ≤ n - max no 0 := by
  unfold wonI
  rw [if_neg (by omega), majI_high (by omega)]
  split
  · simp; omega
  · split <;> simp <;> omega
theorem won_two {yes no n : Int} (h : 1 ≤ n) : wonI yes no n = 2 ↔ yes < n / 2 + 1 ∧ n - max no 0 < n / 2 + 1 := by
  unfold wonI
  rw [if_neg (by omega), majI_high (by omega)]
  split
  · simp; omega
  · split <;> simp <;> omega

set_option maxRecDepth 100000 in
set_option maxHeartbeats 2000000 in
theorem quorumGrows_of (yes no n : Int) (w : World) (h1 : 0 ≤ yes ∧ yes < 18446744073709551616) (h2 : 0 ≤ no ∧ no < 18446744073709551616) (h3 : 0 ≤ n ∧ n < 18446744073709551616) :
    Calls Try.prog 7 #[.int .u64 yes, .int .u64 no, .int .u64 n] w fun e w' => e = .returned (.bool true) ∧ Below w.heap.size w w' := by
  have r1 : yes.tmod 100 = yes % 100 := Int.tmod_eq_emod_of_nonneg h1.1
  have r2 : no.tmod 100 = no % 100 := Int.tmod_eq_emod_of_nonneg h2.1
  have r3 : n.tmod 100 = n % 100 := Int.tmod_eq_emod_of_nonneg h3.1
  have b1 : 0 ≤ yes % 100 ∧ yes % 100 < 100 := by omega
  have b2 : 0 ≤ no % 100 ∧ no % 100 < 100 := by omega
  have b3 : 0 ≤ n % 100 ∧ n % 100 < 100 := by omega
  generalize yes % 100 = a at *
  generalize no % 100 = b at *
  generalize n % 100 = c0 at *
  go_enter Try.func7, Try.ntmps7
  go_wp2_with fail
  have bc : 1 ≤ 1 + c0 ∧ 1 + c0 < 101 := by omega
  generalize 1 + c0 = c at *
  have e1 : wonI c 0 c = 1 := (won_one bc.1).2 (by omega)
  have e2 : wonI 0 c c = 2 := (won_two bc.1).2 (by omega)
  have ea : (0 : Int) ≤ a + 1 ∧ a + 1 < 102 := by omega
  have v0 := won_values a b c
  refine (won_any a b c _ (by omega) (by omega) (by omega)).mono ?_
  rintro e w1 ⟨rfl, rfl⟩
  rcases v0 with h0 | h0 | h0
  · rw [h0]
    have hh := (won_zero bc.1).1 h0
    have f2 : wonI a (b + 1) c ≠ 1 := fun h => by have := (won_one bc.1).1 h; omega
    have f2' : (wonI a (b + 1) c == 1) = false := beq_eq_false_iff_ne.2 f2
    have f3 : a + b < c := by omega
    clear f2 hh h0
    go_wp2_with fail
    refine (won_any a (b + 1) c _ (by omega) (by omega) (by omega)).mono ?_
    rintro e w1 ⟨rfl, rfl⟩
    generalize wonI a (b + 1) c = z at *
    go_wp2_with fail
    refine (won_any c 0 c _ (by omega) (by omega) (by omega)).mono ?_
    rintro e w1 ⟨rfl, rfl⟩
    rw [e1]
    go_wp2_with fail
    refine (won_any 0 c c _ (by omega) (by omega) (by omega)).mono ?_
    rintro e w1 ⟨rfl, rfl⟩
    rw [e2]
    go_wp2_with fail
    refine (lives14 _).mono ?_
    rintro e w1 ⟨rfl, hb⟩
    go_wp2
    go_ret
    exact ⟨rfl, hb⟩
  · rw [h0]
    have hh := (won_one bc.1).1 h0
    have f2 : wonI (a + 1) b c = 1 := (won_one bc.1).2 (by omega)
    clear hh h0
    go_wp2_with fail
    refine (won_any (a + 1) b c _ (by omega) (by omega) (by omega)).mono ?_
    rintro e w1 ⟨rfl, rfl⟩
    rw [f2]
    go_wp2_with fail
    refine (won_any c 0 c _ (by omega) (by omega) (by omega)).mono ?_
    rintro e w1 ⟨rfl, rfl⟩
    rw [e1]
    go_wp2_with fail
    refine (won_any 0 c c _ (by omega) (by omega) (by omega)).mono ?_
    rintro e w1 ⟨rfl, rfl⟩
    rw [e2]
    go_wp2_with fail
    refine (lives14 _).mono ?_
    rintro e w1 ⟨rfl, hb⟩
    go_wp2
    go_ret
    exact ⟨rfl, hb⟩
  · rw [h0]
    have hh := (won_two bc.1).1 h0
    have f2 : wonI a (b + 1) c ≠ 1 := fun h => by have := (won_one bc.1).1 h; omega
    have f2' : (wonI a (b + 1) c == 1) = false := beq_eq_false_iff_ne.2 f2
    have f3 : wonI (c - b) b c ≠ 1 := fun h => by have := (won_one bc.1).1 h; omega
    have f3' : (wonI (c - b) b c == 1) = false := beq_eq_false_iff_ne.2 f3
    clear f2 f3 hh h0
    by_cases h3 : a + b ≤ c
    · go_wp2_with fail
      refine (won_any a (b + 1) c _ (by omega) (by omega) (by omega)).mono ?_
      rintro e w1 ⟨rfl, rfl⟩
      generalize wonI a (b + 1) c = z at *
      go_wp2_with fail
      refine (won_any (c - b) b c _ (by omega) (by omega) (by omega)).mono ?_
      rintro e w1 ⟨rfl, rfl⟩
      generalize wonI (c - b) b c = z2 at *
      go_wp2_with fail
      refine (won_any c 0 c _ (by omega) (by omega) (by omega)).mono ?_
      rintro e w1 ⟨rfl, rfl⟩
      rw [e1]
      go_wp2_with fail
      refine (won_any 0 c c _ (by omega) (by omega) (by omega)).mono ?_
      rintro e w1 ⟨rfl, rfl⟩
      rw [e2]
      go_wp2_with fail
      refine (lives14 _).mono ?_
      rintro e w1 ⟨rfl, hb⟩
      go_wp2
      go_ret
      exact ⟨rfl, hb⟩
    · go_wp2_with fail
      refine (won_any a (b + 1) c _ (by omega) (by omega) (by omega)).mono ?_
      rintro e w1 ⟨rfl, rfl⟩
      generalize wonI a (b + 1) c = z at *
      go_wp2_with fail
      refine (won_any c 0 c _ (by omega) (by omega) (by omega)).mono ?_
      rintro e w1 ⟨rfl, rfl⟩
      rw [e1]
      go_wp2_with fail
      refine (won_any 0 c c _ (by omega) (by omega) (by omega)).mono ?_
      rintro e w1 ⟨rfl, rfl⟩
      rw [e2]
      go_wp2_with fail
      refine (lives14 _).mono ?_
      rintro e w1 ⟨rfl, hb⟩
      go_wp2
      go_ret
      exact ⟨rfl, hb⟩
theorem quorumGrows_row (yes no n : Int) (w : World) (h1 : 0 ≤ yes ∧ yes ≤ 18446744073709551615) (h2 : 0 ≤ no ∧ no ≤ 18446744073709551615) (h3 : 0 ≤ n ∧ n ≤ 18446744073709551615) :
    Calls Try.prog 7 #[.int .u64 yes, .int .u64 no, .int .u64 n] w fun e w' => e = .returned (.bool true) ∧ Below w.heap.size w w' :=
  quorumGrows_of yes no n w (by omega) (by omega) (by omega)
end Go.Proofs.Ytjaoljhbnbaeaaa
