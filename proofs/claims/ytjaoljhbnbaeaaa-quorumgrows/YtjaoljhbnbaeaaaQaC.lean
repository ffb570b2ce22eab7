/-
  Contracts: Majority of both, Commit of quorum.
-/
import Derived.Test.YtjaoljhbnbaeaaaQaS
import Derived.Deep.RegionHeld3
namespace Go.Proofs.Ytjaoljhbnbaeaaa
open Go.RowKit Go.Shelf

def majI (n : Int) : Int := (maj14 n.toNat : Int)
theorem majI_nat (n : Nat) : majI (n : Int) = (maj14 n : Int) := by unfold majI; rw [Int.toNat_natCast]
theorem majI_low {n : Int} (h : n < 1) : majI n = 0 := by unfold majI maj14; rw [if_pos (by omega)]; rfl
theorem majI_high {n : Int} (h : ¬ n < 1) : majI n = n / 2 + 1 := by unfold majI maj14; rw [if_neg (by omega)]; omega
theorem majI_range {n : Int} (h : n < 9223372036854775808) : 0 ≤ majI n ∧ majI n < 9223372036854775808 := by
  by_cases hn : n < 1
  · rw [majI_low hn]; omega
  · rw [majI_high hn]; omega

set_option maxRecDepth 100000 in
set_option maxHeartbeats 2000000 in
theorem maj_any (n : Int) (w : World) (h : n < 9223372036854775808) : Calls Try.prog 9 #[.int .i64 n] w fun e w' => e = .returned (.int .i64 (majI n)) ∧ w' = w := by
  by_cases hn : n < 1
  · have hm := majI_low hn
    rw [hm]
    clear hm
    go_enter Try.func9, Try.ntmps9
    go_wp2
    go_ret
    exact ⟨rfl, rfl⟩
  · have hm := majI_high hn
    have ht : n.tdiv 2 = n / 2 := Int.tdiv_eq_ediv_of_nonneg (by omega)
    rw [hm]
    clear hm
    have hb : 0 ≤ n / 2 ∧ n / 2 < 4611686018427387904 := by omega
    generalize n / 2 = q at *
    go_enter Try.func9, Try.ntmps9
    go_wp2
    go_ret
    exact ⟨rfl, rfl⟩
set_option maxRecDepth 100000 in
set_option maxHeartbeats 2000000 in
theorem rmaj_any (n : Int) (w : World) (h : n < 9223372036854775808) : Calls Try.prog 10 #[.int .i64 n] w fun e w' => e = .returned (.int .i64 (majI n)) ∧ w' = w := by
  by_cases hn : n < 1
  · have hm := majI_low hn
    rw [hm]
    clear hm
    go_enter Try.func10, Try.ntmps10
    go_wp2
    go_ret
    exact ⟨rfl, rfl⟩
  · have hm := majI_high hn
    have ht : n.tdiv 2 = n / 2 := Int.tdiv_eq_ediv_of_nonneg (by omega)
    rw [hm]
    clear hm
    have hb : 0 ≤ n / 2 ∧ n / 2 < 4611686018427387904 := by omega
    generalize n / 2 = q at *
    go_enter Try.func10, Try.ntmps10
    go_wp2
    go_ret
    exact ⟨rfl, rfl⟩

set_option maxRecDepth 100000 in
set_option maxHeartbeats 2000000 in
theorem com_any (v : Value) (xs : List Int) (w : World) (h : HasI w v xs) (hl : xs.length ≤ 100000) :
    Calls Try.prog 14 #[v] w fun e w' => e = .returned (.int .i64 (com14 xs)) ∧ Below w.heap.size w w' := by
  obtain ⟨p, c, rfl, hc⟩ : ∃ p c, v = .slice p xs.length c ∧ xs.length ≤ c := by obtain ⟨p, c, rfl, hc, -⟩ := h; exact ⟨p, c, rfl, hc⟩
  by_cases h0 : xs.length = 0
  · have hz : com14 xs = 0 := by unfold com14; rw [if_pos h0]
    rw [hz]
    have h0' : ((xs.length : Int) == 0) = true := by rw [h0]; rfl
    clear hz h
    go_enter Try.func14, Try.ntmps14
    go_wp2
    go_ret
    exact ⟨rfl, Below.refl _ _⟩
  · have h0' : ((xs.length : Int) == 0) = false := by rw [beq_eq_false_iff_ne]; omega
    have hm := maj_pos (show 0 < xs.length by omega)
    have hmi := majI_nat xs.length
    obtain ⟨m, hme⟩ : ∃ m, m = maj14 xs.length := ⟨_, rfl⟩
    rw [← hme] at hm hmi
    obtain ⟨k, hk⟩ : ∃ k, k = xs.length - m := ⟨_, rfl⟩
    have hke : (xs.length : Int) - (m : Int) = (k : Int) := by omega
    have hkl : k < xs.length := by omega
    obtain ⟨y, hy⟩ : ∃ y, y = (srt14 xs).getD k 0 := ⟨_, rfl⟩
    have hz : com14 xs = y := by unfold com14; rw [if_neg h0, hy, hk, hme]
    rw [hz]
    have hY : Hid (y = (srt14 xs).getD k 0) := hy
    clear hme hk hz hy
    have hsl := srt_len xs
    go_enter Try.func14, Try.ntmps14
    go_wp2_with fail
    refine (sorted_any p xs.length c xs w h hl).mono ?_
    rintro e w1 ⟨g, rfl, hO, hb⟩
    go_wp2_with fail
    refine (maj_any _ w1 (by omega)).mono ?_
    rintro e w2 ⟨rfl, rfl⟩
    rw [hmi]
    have hcell : w2.cell? ⟨g, k, none⟩ = some (.int .i64 y) := by
      rw [hY.out]
      obtain ⟨p', c', hv, _, _, hx⟩ := hO.has
      obtain ⟨b, o, hp, _, hcl⟩ := hx (by omega)
      simp only [Value.slice.injEq] at hv
      rw [← hv.1] at hp
      cases hp
      have := hcl k (by omega)
      rwa [Nat.zero_add] at this
    clear h hO hY hsl
    go_wp2
    go_ret
    exact ⟨rfl, hb⟩
end Go.Proofs.Ytjaoljhbnbaeaaa
