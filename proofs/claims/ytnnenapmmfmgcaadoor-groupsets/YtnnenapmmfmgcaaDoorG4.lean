/-
  Contracts: corbelref03.Get, Set.
-/
import Derived.Test.YtnnenapmmfmgcaaDoorG3
namespace Go.Proofs.YtnnenapmmfmgcaaDoor
open Go.RowKit

theorem rem8 (i : Int) (k : Nat) (hk : i % 8 = k) : i.tmod 8 = k ∨ (i.tmod 8 = (k : Int) - 8 ∧ 0 < k ∧ k < 8) := by
  rw [Int.tmod_eq_emod]
  split
  · left; omega
  · right
    have : (8 : Int).natAbs = 8 := rfl
    omega

set_option maxHeartbeats 1000000 in
theorem rget_any (n : Nat) (i : Int) (k : Nat) (hk : i % 8 = k) (w : World) (hn : n < 18446744073709551616) : Calls Tryd.prog 10 #[.int .u64 n, .int .i64 i] w fun e w' => e = .returned (.int .u8 (byteN n k)) ∧ w' = w := by
  have hr := rem8 i k hk
  have hk8 : k < 8 := by omega
  clear hk
  rcases hr with hr | ⟨hr, hk0, hk8'⟩
  · obtain rfl | rfl | rfl | rfl | rfl | rfl | rfl | rfl : k = 0 ∨ k = 1 ∨ k = 2 ∨ k = 3 ∨ k = 4 ∨ k = 5 ∨ k = 6 ∨ k = 7 := by omega
    all_goals clear hk8
    all_goals go_enter Tryd.func10, Tryd.ntmps10
    all_goals go_wp2
    all_goals go_ret
    all_goals refine ⟨?_, rfl⟩
    all_goals simp [byteN]
    all_goals omega
  · obtain rfl | rfl | rfl | rfl | rfl | rfl | rfl : k = 1 ∨ k = 2 ∨ k = 3 ∨ k = 4 ∨ k = 5 ∨ k = 6 ∨ k = 7 := by omega
    all_goals clear hk8 hk0 hk8'
    all_goals go_enter Tryd.func10, Tryd.ntmps10
    all_goals go_wp2
    all_goals go_ret
    all_goals refine ⟨?_, rfl⟩
    all_goals simp [byteN]
    all_goals omega

theorem put_lit0 (n c : Nat) (hn : n < 18446744073709551616) (hc : c < 256) : bits .or .u64 (bits .andNot .u64 (n : Int) 255) (c : Int) = ((putN n 0 c : Nat) : Int) := by
  have e2 := put_u64 n 0 c hn (by decide) hc
  simp only [Nat.reducePow, Int.cast_ofNat_Int, Nat.mul_one] at e2
  exact e2
theorem put_lit1 (n c : Nat) (hn : n < 18446744073709551616) (hc : c < 256) : bits .or .u64 (bits .andNot .u64 (n : Int) 65280) ((c : Int) * 256) = ((putN n 1 c : Nat) : Int) := by
  have e2 := put_u64 n 1 c hn (by decide) hc
  simp only [Nat.reducePow, Nat.reduceMul, Int.natCast_mul, Int.cast_ofNat_Int] at e2
  exact e2
theorem put_lit2 (n c : Nat) (hn : n < 18446744073709551616) (hc : c < 256) : bits .or .u64 (bits .andNot .u64 (n : Int) 16711680) ((c : Int) * 65536) = ((putN n 2 c : Nat) : Int) := by
  have e2 := put_u64 n 2 c hn (by decide) hc
  simp only [Nat.reducePow, Nat.reduceMul, Int.natCast_mul, Int.cast_ofNat_Int] at e2
  exact e2
theorem put_lit3 (n c : Nat) (hn : n < 18446744073709551616) (hc : c < 256) : bits .or .u64 (bits .andNot .u64 (n : Int) 4278190080) ((c : Int) * 16777216) = ((putN n 3 c : Nat) : Int) := by
  have e2 := put_u64 n 3 c hn (by decide) hc
  simp only [Nat.reducePow, Nat.reduceMul, Int.natCast_mul, Int.cast_ofNat_Int] at e2
  exact e2
theorem put_lit4 (n c : Nat) (hn : n < 18446744073709551616) (hc : c < 256) : bits .or .u64 (bits .andNot .u64 (n : Int) 1095216660480) ((c : Int) * 4294967296) = ((putN n 4 c : Nat) : Int) := by
  have e2 := put_u64 n 4 c hn (by decide) hc
  simp only [Nat.reducePow, Nat.reduceMul, Int.natCast_mul, Int.cast_ofNat_Int] at e2
  exact e2
theorem put_lit5 (n c : Nat) (hn : n < 18446744073709551616) (hc : c < 256) : bits .or .u64 (bits .andNot .u64 (n : Int) 280375465082880) ((c : Int) * 1099511627776) = ((putN n 5 c : Nat) : Int) := by
  have e2 := put_u64 n 5 c hn (by decide) hc
  simp only [Nat.reducePow, Nat.reduceMul, Int.natCast_mul, Int.cast_ofNat_Int] at e2
  exact e2
theorem put_lit6 (n c : Nat) (hn : n < 18446744073709551616) (hc : c < 256) : bits .or .u64 (bits .andNot .u64 (n : Int) 71776119061217280) ((c : Int) * 281474976710656) = ((putN n 6 c : Nat) : Int) := by
  have e2 := put_u64 n 6 c hn (by decide) hc
  simp only [Nat.reducePow, Nat.reduceMul, Int.natCast_mul, Int.cast_ofNat_Int] at e2
  exact e2
theorem put_lit7 (n c : Nat) (hn : n < 18446744073709551616) (hc : c < 256) : bits .or .u64 (bits .andNot .u64 (n : Int) 18374686479671623680) ((c : Int) * 72057594037927936) = ((putN n 7 c : Nat) : Int) := by
  have e2 := put_u64 n 7 c hn (by decide) hc
  simp only [Nat.reducePow, Nat.reduceMul, Int.natCast_mul, Int.cast_ofNat_Int] at e2
  exact e2

set_option maxHeartbeats 2000000 in
theorem rset_any (n : Nat) (i : Int) (k c : Nat) (hk : i % 8 = k) (w : World) (hn : n < 18446744073709551616) (hc : c < 256) : Calls Tryd.prog 12 #[.int .u64 n, .int .i64 i, .int .u8 c] w fun e w' => e = .returned (.int .u64 (putN n k c)) ∧ w' = w := by
  have hr := rem8 i k hk
  have hk8 : k < 8 := by omega
  clear hk
  rcases hr with hr | ⟨hr, hk0, hk8'⟩
  · obtain rfl | rfl | rfl | rfl | rfl | rfl | rfl | rfl : k = 0 ∨ k = 1 ∨ k = 2 ∨ k = 3 ∨ k = 4 ∨ k = 5 ∨ k = 6 ∨ k = 7 := by omega
    all_goals clear hk8
    · have e1 := put_lit0 n c hn hc
      go_enter Tryd.func12, Tryd.ntmps12
      go_wp2
      go_ret
      refine ⟨?_, rfl⟩
      first | rfl | (show Ending.returned (.int .u64 (bits .or .u64 (bits .andNot .u64 (n : Int) 255) (c : Int))) = _; rw [e1])
    · have e1 := put_lit1 n c hn hc
      go_enter Tryd.func12, Tryd.ntmps12
      go_wp2
      go_ret
      refine ⟨?_, rfl⟩
      first | rfl | (show Ending.returned (.int .u64 (bits .or .u64 (bits .andNot .u64 (n : Int) 65280) ((c : Int) * 256))) = _; rw [e1])
    · have e1 := put_lit2 n c hn hc
      go_enter Tryd.func12, Tryd.ntmps12
      go_wp2
      go_ret
      refine ⟨?_, rfl⟩
      first | rfl | (show Ending.returned (.int .u64 (bits .or .u64 (bits .andNot .u64 (n : Int) 16711680) ((c : Int) * 65536))) = _; rw [e1])
    · have e1 := put_lit3 n c hn hc
      go_enter Tryd.func12, Tryd.ntmps12
      go_wp2
      go_ret
      refine ⟨?_, rfl⟩
      first | rfl | (show Ending.returned (.int .u64 (bits .or .u64 (bits .andNot .u64 (n : Int) 4278190080) ((c : Int) * 16777216))) = _; rw [e1])
    · have e1 := put_lit4 n c hn hc
      go_enter Tryd.func12, Tryd.ntmps12
      go_wp2
      go_ret
      refine ⟨?_, rfl⟩
      first | rfl | (show Ending.returned (.int .u64 (bits .or .u64 (bits .andNot .u64 (n : Int) 1095216660480) ((c : Int) * 4294967296))) = _; rw [e1])
    · have e1 := put_lit5 n c hn hc
      go_enter Tryd.func12, Tryd.ntmps12
      go_wp2
      go_ret
      refine ⟨?_, rfl⟩
      first | rfl | (show Ending.returned (.int .u64 (bits .or .u64 (bits .andNot .u64 (n : Int) 280375465082880) ((c : Int) * 1099511627776))) = _; rw [e1])
    · have e1 := put_lit6 n c hn hc
      go_enter Tryd.func12, Tryd.ntmps12
      go_wp2
      go_ret
      refine ⟨?_, rfl⟩
      first | rfl | (show Ending.returned (.int .u64 (bits .or .u64 (bits .andNot .u64 (n : Int) 71776119061217280) ((c : Int) * 281474976710656))) = _; rw [e1])
    · have e1 := put_lit7 n c hn hc
      go_enter Tryd.func12, Tryd.ntmps12
      go_wp2
      go_ret
      refine ⟨?_, rfl⟩
      first | rfl | (show Ending.returned (.int .u64 (bits .or .u64 (bits .andNot .u64 (n : Int) 18374686479671623680) ((c : Int) * 72057594037927936))) = _; rw [e1])
  · obtain rfl | rfl | rfl | rfl | rfl | rfl | rfl : k = 1 ∨ k = 2 ∨ k = 3 ∨ k = 4 ∨ k = 5 ∨ k = 6 ∨ k = 7 := by omega
    all_goals clear hk8 hk0 hk8'
    · have e1 := put_lit1 n c hn hc
      go_enter Tryd.func12, Tryd.ntmps12
      go_wp2
      go_ret
      refine ⟨?_, rfl⟩
      first | rfl | (show Ending.returned (.int .u64 (bits .or .u64 (bits .andNot .u64 (n : Int) 65280) ((c : Int) * 256))) = _; rw [e1])
    · have e1 := put_lit2 n c hn hc
      go_enter Tryd.func12, Tryd.ntmps12
      go_wp2
      go_ret
      refine ⟨?_, rfl⟩
      first | rfl | (show Ending.returned (.int .u64 (bits .or .u64 (bits .andNot .u64 (n : Int) 16711680) ((c : Int) * 65536))) = _; rw [e1])
    · have e1 := put_lit3 n c hn hc
      go_enter Tryd.func12, Tryd.ntmps12
      go_wp2
      go_ret
      refine ⟨?_, rfl⟩
      first | rfl | (show Ending.returned (.int .u64 (bits .or .u64 (bits .andNot .u64 (n : Int) 4278190080) ((c : Int) * 16777216))) = _; rw [e1])
    · have e1 := put_lit4 n c hn hc
      go_enter Tryd.func12, Tryd.ntmps12
      go_wp2
      go_ret
      refine ⟨?_, rfl⟩
      first | rfl | (show Ending.returned (.int .u64 (bits .or .u64 (bits .andNot .u64 (n : Int) 1095216660480) ((c : Int) * 4294967296))) = _; rw [e1])
    · have e1 := put_lit5 n c hn hc
      go_enter Tryd.func12, Tryd.ntmps12
      go_wp2
      go_ret
      refine ⟨?_, rfl⟩
      first | rfl | (show Ending.returned (.int .u64 (bits .or .u64 (bits .andNot .u64 (n : Int) 280375465082880) ((c : Int) * 1099511627776))) = _; rw [e1])
    · have e1 := put_lit6 n c hn hc
      go_enter Tryd.func12, Tryd.ntmps12
      go_wp2
      go_ret
      refine ⟨?_, rfl⟩
      first | rfl | (show Ending.returned (.int .u64 (bits .or .u64 (bits .andNot .u64 (n : Int) 71776119061217280) ((c : Int) * 281474976710656))) = _; rw [e1])
    · have e1 := put_lit7 n c hn hc
      go_enter Tryd.func12, Tryd.ntmps12
      go_wp2
      go_ret
      refine ⟨?_, rfl⟩
      first | rfl | (show Ending.returned (.int .u64 (bits .or .u64 (bits .andNot .u64 (n : Int) 18374686479671623680) ((c : Int) * 72057594037927936))) = _; rw [e1])
end Go.Proofs.YtnnenapmmfmgcaaDoor
