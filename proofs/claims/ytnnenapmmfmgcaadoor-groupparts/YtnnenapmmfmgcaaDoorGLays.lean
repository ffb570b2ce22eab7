/-
  The walk of GroupLays.
-/
import Derived.Test.YtnnenapmmfmgcaaDoorG3
namespace Go.Proofs.YtnnenapmmfmgcaaDoor
open Go.RowKit

theorem st_bit : ∀ (n : Nat) (m : Nat → Nat), (∀ i, m i < 2) → ∀ k, k < n → st n m / 2 ^ k % 2 = m k
  | 0, _, _, k, hk => by omega
  | n + 1, m, h, k, hk => by
    show (st n m + m n * 2 ^ n) / 2 ^ k % 2 = m k
    by_cases e : k = n
    · subst e
      rw [Nat.add_mul_div_right _ _ (Nat.two_pow_pos k), Nat.div_eq_of_lt (st_lt k m h)]
      have := h k
      omega
    · have ih := st_bit n m h k (by omega)
      obtain ⟨d, rfl⟩ : ∃ d, n = k + 1 + d := ⟨n - k - 1, by omega⟩
      have e2 : m (k + 1 + d) * 2 ^ (k + 1 + d) = m (k + 1 + d) * 2 ^ d * 2 * 2 ^ k := by
        rw [Nat.pow_add, Nat.pow_succ]; ac_rfl
      rw [e2, Nat.add_mul_div_right _ _ (Nat.two_pow_pos k), Nat.add_mul_mod_self_right]
      exact ih

theorem match_put (n k c : Nat) (hk : k < 8) (hc : c < 256) : matchN (putN n k c) c / 2 ^ k % 2 = 1 := by
  unfold matchN
  rw [st_bit 8 _ (fun _ => ite_lt2 _) k hk, put_byte n k c hc k hk, if_pos rfl, if_pos rfl]

theorem bit_u8 (m k : Nat) (hm : m < 256) : bits .and .u8 ((m : Int) / 2 ^ k) 1 = ((m / 2 ^ k % 2 : Nat) : Int) := by
  have e : ((m : Int) / 2 ^ k) = ((m / 2 ^ k : Nat) : Int) := by rw [Int.natCast_ediv, Int.natCast_pow]; rfl
  rw [e, show (1 : Int) = ((1 : Nat) : Int) from rfl, u8_and_nat _ 1 (Nat.lt_of_le_of_lt (Nat.div_le_self _ _) hm) (by decide), nat_mask1]

set_option maxHeartbeats 2000000 in
theorem groupLays_any (wd i c : Int) (w : World) (hT : Tab w) (hw : 0 ≤ wd ∧ wd ≤ 18446744073709551615) (_hi : -9223372036854775808 ≤ i ∧ i ≤ 9223372036854775807) (hc : 0 ≤ c ∧ c ≤ 255) :
    Calls Tryd.prog 6 #[.int .u64 wd, .int .i64 i, .int .u8 c] w fun e w' => e = .returned (.bool true) ∧ Below w.heap.size w w' := by
  obtain ⟨n, rfl⟩ := Int.eq_ofNat_of_zero_le hw.1
  obtain ⟨b, rfl⟩ := Int.eq_ofNat_of_zero_le hc.1
  have hn : n < 18446744073709551616 := by omega
  have hb : b < 256 := by omega
  obtain ⟨k, hk⟩ : ∃ k : Nat, i % 8 = k := ⟨(i % 8).toNat, by omega⟩
  have hk8 : k < 8 := by omega
  have e7 : bits .and .i64 i 7 = (k : Int) := (i64_and7 i).trans hk
  have hm : bits .and .u8 ((matchN (putN n k b) b : Int) / 2 ^ k) 1 = 1 := by rw [bit_u8 _ k (matchN_lt _ _), match_put n k b hk8 hb]; rfl
  have hp : ∀ j, j < 8 → byteN (putN n k b) j = if j = k then b else byteN n j := put_byte n k b hb
  have hpb : putN (putN n k b) k (byteN n k) = n := put_back n k b hn hb
  have hpl := put_lt n k b hb
  have hml := matchN_lt (putN n k b) b
  clear hw hc
  go_enter Tryd.func6, Tryd.ntmps6
  go_wp2_with fail
  refine (set_below n i k b hk _ hn hb).mono ?_
  rintro e w1 ⟨rfl, hb1⟩
  have hT1 := hT.below hb1 hT.1
  generalize putN n k b = x at *
  go_wp2_with fail
  refine same_mono (get_any x i k hk _ hpl) ?_
  rw [hp k hk8, if_pos rfl]
  go_wp2_with fail
  refine same_mono (match_any x b _ hpl hb) ?_
  generalize matchN x b = m at *
  go_wp2_with fail
  refine same_mono (get_any n i k hk _ hn) ?_
  have hbk := byteN_lt n k
  generalize byteN n k = y at *
  go_wp2_with fail
  refine (set_below x i k y hk _ hpl hbk).mono ?_
  rintro e w2 ⟨rfl, hb2⟩
  have hT2 := hT1.below hb2 hT1.1
  have hB2 : Below w.heap.size w w2 := hb1.trans (hb2.mono hb1.size)
  rw [hpb]
  clear hb1 hb2 hT1 hT hm hpb
  go_wp2_with fail
  go_loop [9] (fun t => ∃ j : Nat, j ≤ 8 ∧ t = .int .i64 j) (fun t => 8 - (intOf t).toNat)
  case atStart => exact ⟨0, by decide, rfl⟩
  case round =>
    obtain ⟨j, hj, rfl⟩ := hrel
    by_cases hlt : j < 8
    · by_cases hjk : j = k
      · subst hjk
        go_wp2
        go_round
        case rel => exact ⟨j + 1, by omega, by go_num⟩
        case measure => simp [intOf]; omega
      · have hpj := hp j hlt
        rw [if_neg hjk] at hpj
        go_wp2_with fail
        refine same_mono (get_at x j rfl hlt _ hpl) ?_
        rw [hpj]
        go_wp2_with fail
        refine same_mono (get_at n j rfl hlt _ hn) ?_
        go_wp2
        go_round
        case rel => exact ⟨j + 1, by omega, by go_num⟩
        case measure => simp [intOf]; omega
    · obtain rfl : j = 8 := by omega
      go_wp2_with fail
      refine (lives_any _ hT2).mono ?_
      rintro e w3 ⟨rfl, hb3⟩
      go_wp2
      go_ret
      exact ⟨rfl, hB2.trans (hb3.mono hB2.size)⟩
end Go.Proofs.YtnnenapmmfmgcaaDoor
