/-
  Contracts: Won of both, cut.
-/
import Derived.Test.YtjaoljhbnbaeaaaQaC
namespace Go.Proofs.Ytjaoljhbnbaeaaa
open Go.RowKit Go.Shelf

def wonI (yes no n : Int) : Int := if n < 1 then 2 else if majI n ≤ yes then 1 else if n - max no 0 < majI n then 2 else 0
def cutI (k n : Int) : Int := if n < k then (if n < 0 then 0 else n) else if k < 0 then 0 else k

/-- All that is known of a majority of n, at least one. -/
theorem majI_facts {n : Int} (h : ¬ n < 1) (_h2 : n < 9223372036854775808) : 1 ≤ majI n ∧ majI n ≤ n := by
  rw [majI_high h]; omega

set_option maxRecDepth 100000 in
set_option maxHeartbeats 2000000 in
theorem won_any (yes no n : Int) (w : World) (_h1 : -9223372036854775808 ≤ yes ∧ yes < 9223372036854775808) (h2 : -9223372036854775808 ≤ no ∧ no < 9223372036854775808) (h3 : -9223372036854775808 ≤ n ∧ n < 9223372036854775808) :
    Calls Try.prog 11 #[.int .i64 yes, .int .i64 no, .int .i64 n] w fun e w' => e = .returned (.int .i64 (wonI yes no n)) ∧ w' = w := by
  unfold wonI
  by_cases hn : n < 1
  · rw [if_pos hn]
    go_enter Try.func11, Try.ntmps11
    go_wp2
    go_ret
    exact ⟨rfl, rfl⟩
  · obtain ⟨m1, m2⟩ := majI_facts hn h3.2
    have kM := fun w => maj_any n w h3.2
    generalize majI n = m at *
    rw [if_neg hn]
    by_cases hy : m ≤ yes
    · rw [if_pos hy]
      go_enter Try.func11, Try.ntmps11
      go_wp2_with (go_at_call 9; refine (kM _).mono ?_; rintro e w3 ⟨rfl, rfl⟩)
      go_ret
      exact ⟨rfl, rfl⟩
    · rw [if_neg hy]
      have hx : 0 ≤ max no 0 ∧ max no 0 < 9223372036854775808 := by omega
      generalize hX : max no 0 = x at *
      by_cases hz : n - x < m
      · rw [if_pos hz]
        go_enter Try.func11, Try.ntmps11
        go_wp2_with (go_at_call 9; refine (kM _).mono ?_; rintro e w3 ⟨rfl, rfl⟩)
        go_ret
        exact ⟨rfl, rfl⟩
      · rw [if_neg hz]
        go_enter Try.func11, Try.ntmps11
        go_wp2_with (go_at_call 9; refine (kM _).mono ?_; rintro e w3 ⟨rfl, rfl⟩)
        go_ret
        exact ⟨rfl, rfl⟩

set_option maxRecDepth 100000 in
set_option maxHeartbeats 2000000 in
theorem cut_any14 (k n : Int) (w : World) : Calls Try.prog 19 #[.int .i64 k, .int .i64 n] w fun e w' => e = .returned (.int .i64 (cutI k n)) ∧ w' = w := by
  unfold cutI
  by_cases h1 : n < k
  · rw [if_pos h1]
    by_cases h2 : n < 0
    · rw [if_pos h2]
      go_enter Try.func19, Try.ntmps19
      go_wp2
      go_ret
      exact ⟨rfl, rfl⟩
    · rw [if_neg h2]
      go_enter Try.func19, Try.ntmps19
      go_wp2
      go_ret
      exact ⟨rfl, rfl⟩
  · rw [if_neg h1]
    by_cases h2 : k < 0
    · rw [if_pos h2]
      go_enter Try.func19, Try.ntmps19
      go_wp2
      go_ret
      exact ⟨rfl, rfl⟩
    · rw [if_neg h2]
      go_enter Try.func19, Try.ntmps19
      go_wp2
      go_ret
      exact ⟨rfl, rfl⟩

set_option maxRecDepth 100000 in
set_option maxHeartbeats 2000000 in
theorem rwon_any (yes no n : Int) (w : World) (_h1 : -9223372036854775808 ≤ yes ∧ yes < 9223372036854775808) (h2 : -9223372036854775808 ≤ no ∧ no < 9223372036854775808) (h3 : -9223372036854775808 ≤ n ∧ n < 9223372036854775808) :
    Calls Try.prog 12 #[.int .i64 yes, .int .i64 no, .int .i64 n] w fun e w' => e = .returned (.int .i64 (wonI yes no n)) ∧ w' = w := by
  unfold wonI
  by_cases hn : n < 1
  · rw [if_pos hn]
    go_enter Try.func12, Try.ntmps12
    go_wp2
    go_ret
    exact ⟨rfl, rfl⟩
  · obtain ⟨m1, m2⟩ := majI_facts hn h3.2
    have kM := fun w => rmaj_any n w h3.2
    have kC1 := fun w => cut_any14 yes n w
    have kC2 := fun w => cut_any14 no n w
    have e1 : cutI yes n < majI n ↔ yes < majI n := by unfold cutI; split <;> split <;> omega
    have e2 : n - cutI no n < majI n ↔ n - max no 0 < majI n := by unfold cutI; split <;> split <;> omega
    have b2 : 0 ≤ cutI no n ∧ cutI no n ≤ n := by unfold cutI; split <;> split <;> omega
    generalize majI n = m at *
    generalize cutI yes n = a at *
    generalize cutI no n = b at *
    rw [if_neg hn]
    by_cases hy : m ≤ yes
    · rw [if_pos hy]
      have ha : m ≤ a := by omega
      clear e1 e2
      go_enter Try.func12, Try.ntmps12
      go_wp2_with fail
      refine (kC1 _).mono ?_; rintro e w3 ⟨rfl, rfl⟩
      go_wp2_with fail
      refine (kM _).mono ?_; rintro e w3 ⟨rfl, rfl⟩
      go_wp2
      go_ret
      exact ⟨rfl, rfl⟩
    · rw [if_neg hy]
      have ha : a < m := by omega
      by_cases hz : n - max no 0 < m
      · rw [if_pos hz]
        have hb : n - b < m := e2.2 hz
        clear e1 e2 hz hy
        go_enter Try.func12, Try.ntmps12
        go_wp2_with fail
        refine (kC1 _).mono ?_; rintro e w3 ⟨rfl, rfl⟩
        go_wp2_with fail
        refine (kM _).mono ?_; rintro e w3 ⟨rfl, rfl⟩
        go_wp2_with fail
        refine (kC2 _).mono ?_; rintro e w3 ⟨rfl, rfl⟩
        go_wp2_with fail
        refine (kM _).mono ?_; rintro e w3 ⟨rfl, rfl⟩
        go_wp2
        go_ret
        exact ⟨rfl, rfl⟩
      · rw [if_neg hz]
        have hb : ¬ n - b < m := fun h => hz (e2.1 h)
        clear e1 e2 hz hy
        go_enter Try.func12, Try.ntmps12
        go_wp2_with fail
        refine (kC1 _).mono ?_; rintro e w3 ⟨rfl, rfl⟩
        go_wp2_with fail
        refine (kM _).mono ?_; rintro e w3 ⟨rfl, rfl⟩
        go_wp2_with fail
        refine (kC2 _).mono ?_; rintro e w3 ⟨rfl, rfl⟩
        go_wp2_with fail
        refine (kM _).mono ?_; rintro e w3 ⟨rfl, rfl⟩
        go_wp2
        go_ret
        exact ⟨rfl, rfl⟩
end Go.Proofs.Ytjaoljhbnbaeaaa
