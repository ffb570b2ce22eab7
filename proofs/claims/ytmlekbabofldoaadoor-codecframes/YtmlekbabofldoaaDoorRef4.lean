/-
  Contracts: corbelref01.Sum, of, low, Frame, Unframe.
-/
import Derived.Test.YtmlekbabofldoaaDoorSum0
namespace Go.Proofs.YtmlekbabofldoaaDoor
open Go.RowKit

theorem xor_max (c : Int) (h : 0 ≤ c ∧ c ≤ 4294967295) : bits BinOp.xor .u32 c 4294967295 = bits BinOp.xor .u32 IntKind.u32.max c := by
  rw [xor32_comm c 4294967295 h (by decide)]
  rfl

theorem rB_bd (c x : Int) (hc : 0 ≤ c ∧ c ≤ 4294967295) : ∀ k, 0 ≤ rB c x k ∧ rB c x k ≤ 4294967295
  | 0 => hc
  | k + 1 => by
    have ih := rB_bd c x hc k
    unfold rB
    split
    · exact xor_bd _ _
    · omega

set_option maxHeartbeats 1000000 in
theorem rsum_any (v : Value) (xs : List Int) (w : World) (hv : Has w v xs) (hl : xs.length ≤ 1099511627776) (hB : IsB xs) :
    Calls Tryd.prog 14 #[v] w fun e w' => e = .returned (.int .u32 (sumS xs)) ∧ w' = w := by
  obtain ⟨p, c, rfl, hc, hnone, hcell⟩ := hv
  clear hnone
  go_enter Tryd.func14, Tryd.ntmps14
  go_wp2
  go_loop [3, 10] (fun s i => ∃ j : Nat, j ≤ xs.length ∧ i = .int .i64 j ∧ s = .int .u32 (crc (xs.take j))) (fun _ i => xs.length - (intOf i).toNat)
  case atStart => exact ⟨0, Nat.zero_le _, rfl, rfl⟩
  case round =>
    obtain ⟨j, hj, rfl, rfl⟩ := hrel
    by_cases hlt : j < xs.length
    · obtain ⟨b, o, rfl, _, hcl⟩ := hcell (by omega)
      have h1 := hcl j hlt
      have hb := hB.getD j
      have hcb := crc_bd (xs.take j)
      have hs : Hid (crc (xs.take (j + 1)) = rB (crc (xs.take j)) (xs.getD j 0) 8) := by rw [Hid, crc_take xs j hlt, rB_eight _ _ hcb hb]
      clear hcl hcell hB
      generalize crc (xs.take j) = c0 at *
      generalize xs.getD j 0 = x at *
      have HR : ∀ k, Hid (rB c0 x (k + 1) = if bits BinOp.and .u32 (bits BinOp.xor .u32 (rB c0 x k) (x / 2 ^ k)) 1 = 1 then bits BinOp.xor .u32 (rB c0 x k / 2) 2197175160 else rB c0 x k / 2) := fun _ => rfl
      have HR0 : Hid (rB c0 x 0 = c0) := rfl
      have HRB := rB_bd c0 x hcb
      have hxk : ∀ k : Nat, 0 ≤ x / 2 ^ k ∧ x / 2 ^ k ≤ 255 := fun k => by
        obtain ⟨n, rfl⟩ := Int.eq_ofNat_of_zero_le hb.1
        have e : ((n : Int) / 2 ^ k) = ((n / 2 ^ k : Nat) : Int) := by simp
        have := Nat.div_le_self n (2 ^ k)
        rw [e]
        generalize n / 2 ^ k = t at *
        omega
      generalize rB c0 x = R at *
      go_wp2
      go_loop [3, 6] (fun s i => ∃ k : Nat, k ≤ 8 ∧ i = .int .i64 k ∧ s = .int .u32 (R k)) (fun _ i => 8 - (intOf i).toNat)
      case atStart => exact ⟨0, Nat.zero_le _, rfl, by rw [HR0.out]⟩
      case round =>
        obtain ⟨k, hk, rfl, rfl⟩ := hrel
        have hRb := HRB k
        have hR1 := HR k
        have hx1 := hxk k
        clear HRB HR hxk
        by_cases hlt2 : k < 8
        · by_cases hbit : bits BinOp.and .u32 (bits BinOp.xor .u32 (R k) (x / 2 ^ k)) 1 = 1
          · have hb1 : (bits BinOp.and .u32 (bits BinOp.xor .u32 (R k) (x / 2 ^ k)) 1 == 1) = true := by rw [beq_iff_eq]; exact hbit
            have hR2 : Hid (R (k + 1) = bits BinOp.xor .u32 (R k / 2) 2197175160) := by rw [Hid, hR1.out, if_pos hbit]
            clear hbit hR1
            go_wp2
            go_round
            case rel => exact ⟨k + 1, by omega, by go_num, by rw [hR2.out]⟩
            case measure => simp [intOf]; omega
          · have hb1 : (bits BinOp.and .u32 (bits BinOp.xor .u32 (R k) (x / 2 ^ k)) 1 == 1) = false := by rw [beq_eq_false_iff_ne]; exact hbit
            have hR2 : Hid (R (k + 1) = R k / 2) := by rw [Hid, hR1.out, if_neg hbit]
            clear hbit hR1
            go_wp2
            go_round
            case rel => exact ⟨k + 1, by omega, by go_num, by rw [hR2.out]⟩
            case measure => simp [intOf]; omega
        · obtain rfl : k = 8 := by omega
          go_wp2
          go_round
          case rel => exact ⟨j + 1, by omega, by go_num, by rw [hs.out]⟩
          case measure => simp [intOf]; omega
    · obtain rfl : j = xs.length := by omega
      have hcb := crc_bd xs
      have HX : Hid (bits BinOp.xor .u32 (crc xs) 4294967295 = sumS xs) := xor_max _ hcb
      go_wp2
      go_ret
      exact ⟨ret_int HX.out, rfl⟩
end Go.Proofs.YtmlekbabofldoaaDoor
