/-
  Contracts: group.shift, Get, Set, noughts, marked, Match, Empties, Free, Full.
-/
import Derived.Test.YtkjnifipepiahaaDoorG0
import Derived.Test.YtkjnifipepiahaaDoorChecked
import Derived.WalkKit
import Derived.Below
import Derived.BigQuiet
namespace Go.Proofs.YtkjnifipepiahaaDoor
open Go.RowKit

theorem i64_and7 (n : Int) : bits .and .i64 n 7 = n % 8 := by
  show IntKind.i64.wrap ((BitVec.ofInt 64 n &&& BitVec.ofInt 64 7).toNat : Int) = _
  have e : (BitVec.ofInt 64 n &&& BitVec.ofInt 64 7).toNat = (n % 8).toNat := by
    rw [BitVec.toNat_and, show (BitVec.ofInt 64 7).toNat = 2 ^ 3 - 1 by decide, Nat.and_two_pow_sub_one_eq_mod, BitVec.toNat_ofInt]
    omega
  rw [e]
  simp only [IntKind.wrap, IntKind.bits, IntKind.signed]
  simp
  omega
theorem not_u64 (n : Nat) (hn : n < 18446744073709551616) : bits .xor .u64 IntKind.u64.max (n : Int) = ((18446744073709551615 - n : Nat) : Int) := by
  have h1 : ∀ x : Fin 256, 255 ^^^ x.val = 255 - x.val := by decide +kernel
  have e : 18446744073709551615 ^^^ n = 18446744073709551615 - n := by
    have e2 : 18446744073709551615 ^^^ pk 8 (byteN n) = 18446744073709551615 - pk 8 (byteN n) := by
      rw [pk_not _ (byteN_lt n), show 18446744073709551615 = pk 8 (fun _ => 255) by decide, pk_xor 8 _ _ (fun _ => by decide) (byteN_lt n)]
      exact pk_congr 8 _ _ fun i _ => h1 ⟨byteN n i, byteN_lt n i⟩
    rwa [pk_bytes 8 n hn] at e2
  have := bits_xor_u64_nat 18446744073709551615 n (by decide) hn
  rw [e] at this
  exact this

set_option maxHeartbeats 1000000 in
theorem shift_any (i : Int) (w : World) : Calls Tryd.prog 91 #[.int .i64 i] w fun e w' => e = .returned (.int .i64 (i % 8 * 8)) ∧ w' = w := by
  go_enter Tryd.func91, Tryd.ntmps91
  go_wp2
  go_ret
  refine ⟨?_, rfl⟩
  rw [i64_and7]
  show Ending.returned (.int .i64 (wrap64 (i % 8 * 8))) = _
  rw [show wrap64 (i % 8 * 8) = i % 8 * 8 by unfold wrap64; omega]

set_option maxHeartbeats 1000000 in
theorem noughts_any (n : Nat) (w : World) (hn : n < 18446744073709551616) : Calls Tryd.prog 101 #[.int .u64 n] w fun e w' => e = .returned (.int .u64 (noughtsN n)) ∧ w' = w := by
  have e1 := bits_and_u64_nat n 9187201950435737471 hn (by decide)
  have l1 : (n &&& 9187201950435737471) ≤ 9187201950435737471 := Nat.and_le_right
  have e2 : IntKind.u64.wrap (((n &&& 9187201950435737471 : Nat) : Int) + 9187201950435737471) = (((n &&& 9187201950435737471) + 9187201950435737471 : Nat) : Int) := by rw [IntKind.wrap_u64]; omega
  have e3 := bits_or_u64_nat ((n &&& 9187201950435737471) + 9187201950435737471) n (by omega) hn
  have l3 : ((n &&& 9187201950435737471) + 9187201950435737471 ||| n) < 18446744073709551616 := Nat.or_lt_two_pow (n := 64) (by omega) hn
  have e4 := not_u64 _ l3
  have e5 := bits_and_u64_nat (18446744073709551615 - ((n &&& 9187201950435737471) + 9187201950435737471 ||| n)) 9259542123273814144 (by omega) (by decide)
  rw [noughts_eq n hn] at e5
  go_enter Tryd.func101, Tryd.ntmps101
  go_wp2
  go_ret
  refine ⟨?_, rfl⟩
  show Ending.returned (.int .u64 (bits .and .u64 (bits .xor .u64 IntKind.u64.max (bits .or .u64 (IntKind.u64.wrap (bits .and .u64 (n : Int) ((9187201950435737471 : Nat) : Int) + 9187201950435737471)) n)) ((9259542123273814144 : Nat) : Int))) = _
  rw [e1, e2, e3, e4, e5]

set_option maxHeartbeats 1000000 in
theorem marked_any (n : Nat) (w : World) : Calls Tryd.prog 100 #[.int .u64 n] w fun e w' => e = .returned (.int .u8 (markedN n)) ∧ w' = w := by
  go_enter Tryd.func100, Tryd.ntmps100
  go_wp2
  go_ret
  refine ⟨?_, rfl⟩
  show Ending.returned (.int .u8 (IntKind.u64.wrap ((n : Int) / 128 * 72624976668147840) / 72057594037927936 % 256)) = _
  rw [IntKind.wrap_u64]
  rfl
theorem noughtsN_lt (n : Nat) : noughtsN n < 18446744073709551616 := by
  have := pk_lt 8 (fun i => if byteN n i = 0 then 1 else 0) (fun i => ite_lt256 _)
  have h : ∀ m : Nat → Nat, (∀ i, m i < 2) → pk 8 m ≤ 72340172838076673 := fun m h => by
    have h0 := h 0; have h1 := h 1; have h2 := h 2; have h3 := h 3; have h4 := h 4; have h5 := h 5; have h6 := h 6; have h7 := h 7
    simp only [pk, Nat.zero_add, Nat.reduceAdd]
    omega
  have := h (fun i => if byteN n i = 0 then 1 else 0) (fun i => ite_lt2 _)
  unfold noughtsN
  omega

theorem noughts_at {x : Int} (n : Nat) (hx : x = n) (w : World) (hn : n < 18446744073709551616) : Calls Tryd.prog 101 #[.int .u64 x] w fun e w' => e = .returned (.int .u64 (noughtsN n)) ∧ w' = w := by
  subst hx; exact noughts_any n w hn
theorem marked_at {x : Int} (n : Nat) (hx : x = n) (w : World) : Calls Tryd.prog 100 #[.int .u64 x] w fun e w' => e = .returned (.int .u8 (markedN n)) ∧ w' = w := by
  subst hx; exact marked_any n w

set_option maxHeartbeats 1000000 in
theorem match_any (n h : Nat) (w : World) (hn : n < 18446744073709551616) (hh : h < 256) : Calls Tryd.prog 82 #[.int .u64 n, .int .u8 h] w fun e w' => e = .returned (.int .u8 (matchN n h)) ∧ w' = w := by
  have l0 : 72340172838076673 * h < 18446744073709551616 := by omega
  have e1 := bits_xor_u64_nat n (72340172838076673 * h) hn l0
  have l1 : n ^^^ 72340172838076673 * h < 18446744073709551616 := Nat.xor_lt_two_pow (n := 64) hn l0
  have e2 := match_eq n h hn hh
  go_enter Tryd.func82, Tryd.ntmps82
  go_wp2_with fail
  refine (noughts_at (n ^^^ 72340172838076673 * h) (by exact e1) _ l1).mono ?_
  rintro e w' ⟨rfl, rfl⟩
  go_wp2_with fail
  refine (marked_any _ _).mono ?_
  rintro e w' ⟨rfl, rfl⟩
  go_wp2
  go_ret
  exact ⟨by rw [← e2]; rfl, rfl⟩
theorem match_at {x : Int} (n h : Nat) (hx : x = n) (w : World) (hn : n < 18446744073709551616) (hh : h < 256) : Calls Tryd.prog 82 #[.int .u64 x, .int .u8 h] w fun e w' => e = .returned (.int .u8 (matchN n h)) ∧ w' = w := by
  subst hx; exact match_any n h w hn hh

set_option maxHeartbeats 1000000 in
theorem empties_any (n : Nat) (w : World) (hn : n < 18446744073709551616) : Calls Tryd.prog 58 #[.int .u64 n] w fun e w' => e = .returned (.int .u8 (matchN n 128)) ∧ w' = w := by
  go_enter Tryd.func58, Tryd.ntmps58
  go_wp2_with fail
  refine (match_any n 128 _ hn (by decide)).mono ?_
  rintro e w' ⟨rfl, rfl⟩
  go_wp2
  go_ret
  exact ⟨rfl, rfl⟩

/-- Those that are empty or deleted. -/
def freeN (n : Nat) : Nat := st 8 (fun i => if byteN n i = 128 ∨ byteN n i = 254 then 1 else 0)
theorem st_join : ∀ (k : Nat) (a b : Nat → Nat), (∀ i, a i < 2) → (∀ i, b i < 2) → (st k a ||| st k b) = st k (fun i => a i ||| b i)
  | 0, _, _, _, _ => by simp [st]
  | k + 1, a, b, ha, hb => by
    have h := st_join k a b ha hb
    have h2 : ∀ x y : Fin 2, (x.val ||| y.val) < 2 := by decide
    have hc : ∀ i, (a i ||| b i) < 2 := fun i => h2 ⟨a i, ha i⟩ ⟨b i, hb i⟩
    show (st k a + a k * 2 ^ k ||| st k b + b k * 2 ^ k) = st k (fun i => a i ||| b i) + (a k ||| b k) * 2 ^ k
    rw [← h]
    have e : ∀ (m : Nat → Nat), (∀ i, m i < 2) → st k m + m k * 2 ^ k = 2 ^ k * m k ||| st k m := fun m hm => by
      rw [← Nat.two_pow_add_eq_or_of_lt (st_lt k m hm), Nat.add_comm, Nat.mul_comm]
    have e3 := e _ hc
    rw [← h] at e3
    rw [e a ha, e b hb]
    rw [show (a k ||| b k) = (fun i => a i ||| b i) k from rfl, e3]
    have e4 : 2 ^ k * (a k ||| b k) = 2 ^ k * a k ||| 2 ^ k * b k := by
      simp only [← Nat.shiftLeft_eq, Nat.mul_comm (2 ^ k), Nat.shiftLeft_or_distrib]
    rw [e4]
    ac_rfl
theorem free_eq (n : Nat) : matchN n 128 ||| matchN n 254 = freeN n := by
  unfold matchN freeN
  rw [st_join 8 _ _ (fun _ => ite_lt2 _) (fun _ => ite_lt2 _)]
  refine st_congr 8 _ _ fun i _ => ?_
  by_cases h1 : byteN n i = 128
  · rw [if_pos h1, if_neg (by omega), if_pos (.inl h1)]; rfl
  · by_cases h2 : byteN n i = 254
    · rw [if_neg h1, if_pos h2, if_pos (.inr h2)]; rfl
    · rw [if_neg h1, if_neg h2, if_neg (by omega)]; rfl
theorem freeN_lt (n : Nat) : freeN n < 256 := st_lt 8 _ (fun _ => ite_lt2 _)

set_option maxHeartbeats 1000000 in
theorem free_any (n : Nat) (w : World) (hn : n < 18446744073709551616) : Calls Tryd.prog 85 #[.int .u64 n] w fun e w' => e = .returned (.int .u8 (freeN n)) ∧ w' = w := by
  have e1 := u8_or_nat _ _ (matchN_lt n 128) (matchN_lt n 254)
  rw [free_eq] at e1
  go_enter Tryd.func85, Tryd.ntmps85
  go_wp2_with fail
  refine (match_any n 128 _ hn (by decide)).mono ?_
  rintro e w' ⟨rfl, rfl⟩
  go_wp2_with fail
  refine (match_any n 254 _ hn (by decide)).mono ?_
  rintro e w' ⟨rfl, rfl⟩
  go_wp2
  go_ret
  exact ⟨rfl, rfl⟩

set_option maxHeartbeats 1000000 in
theorem full_any (n : Nat) (w : World) (hn : n < 18446744073709551616) : Calls Tryd.prog 92 #[.int .u64 n] w fun e w' => e = .returned (.int .u8 (fullN n)) ∧ w' = w := by
  have e4 := not_u64 n hn
  have e5 := bits_and_u64_nat (18446744073709551615 - n) 9259542123273814144 (by omega) (by decide)
  have e6 := full_eq n hn
  go_enter Tryd.func92, Tryd.ntmps92
  go_wp2_with fail
  refine (marked_at ((18446744073709551615 - n) &&& 9259542123273814144) (by exact e5) _).mono ?_
  rintro e w' ⟨rfl, rfl⟩
  go_wp2
  go_ret
  exact ⟨by rw [← e6]; rfl, rfl⟩

theorem mod8 (i : Int) : i % 8 = 0 ∨ i % 8 = 1 ∨ i % 8 = 2 ∨ i % 8 = 3 ∨ i % 8 = 4 ∨ i % 8 = 5 ∨ i % 8 = 6 ∨ i % 8 = 7 := by omega

set_option maxHeartbeats 1000000 in
theorem get_any (n : Nat) (i : Int) (k : Nat) (hk : i % 8 = k) (w : World) (hn : n < 18446744073709551616) : Calls Tryd.prog 86 #[.int .u64 n, .int .i64 i] w fun e w' => e = .returned (.int .u8 (byteN n k)) ∧ w' = w := by
  have h8 := mod8 i
  go_enter Tryd.func86, Tryd.ntmps86
  go_wp2_with fail
  refine (shift_any _ _).mono ?_
  rintro e w' ⟨rfl, rfl⟩
  rw [hk] at h8 ⊢
  clear hk
  obtain rfl | rfl | rfl | rfl | rfl | rfl | rfl | rfl : k = 0 ∨ k = 1 ∨ k = 2 ∨ k = 3 ∨ k = 4 ∨ k = 5 ∨ k = 6 ∨ k = 7 := by omega
  all_goals clear h8
  all_goals go_wp2
  all_goals go_ret
  all_goals refine ⟨?_, rfl⟩
  all_goals simp [byteN]
  all_goals omega
theorem get_at {i : Int} (n k : Nat) (hi : i = k) (hk : k < 8) (w : World) (hn : n < 18446744073709551616) : Calls Tryd.prog 86 #[.int .u64 n, .int .i64 i] w fun e w' => e = .returned (.int .u8 (byteN n k)) ∧ w' = w :=
  get_any n i k (by omega) w hn

theorem and_not_u64 (n k : Nat) (hn : n < 18446744073709551616) (hk : k < 8) : bits .andNot .u64 (n : Int) ((255 * 256 ^ k : Nat) : Int) = ((n &&& (18446744073709551615 - 255 * 256 ^ k) : Nat) : Int) :=
  u64_andNot_nat n _ hn ((by decide : ∀ k : Fin 8, 255 * 256 ^ k.val < 18446744073709551616) ⟨k, hk⟩)

theorem put_u64 (n k c : Nat) (hn : n < 18446744073709551616) (hk : k < 8) (hc : c < 256) : bits .or .u64 (bits .andNot .u64 (n : Int) ((255 * 256 ^ k : Nat) : Int)) ((c * 256 ^ k : Nat) : Int) = ((putN n k c : Nat) : Int) := by
  have h1 : c * 256 ^ k < 18446744073709551616 := by
    have h2 := (by decide : ∀ k : Fin 8, 256 * 256 ^ k.val ≤ 18446744073709551616) ⟨k, hk⟩
    exact Nat.lt_of_lt_of_le (Nat.mul_lt_mul_of_pos_right hc (Nat.pow_pos (by decide))) h2
  rw [and_not_u64 n k hn hk, bits_or_u64_nat _ _ (Nat.lt_of_le_of_lt Nat.and_le_left hn) h1, put_eq n k c hn hk hc]

set_option maxHeartbeats 1000000 in
theorem set_any (n : Nat) (i : Int) (k c : Nat) (hk : i % 8 = k) (w : World) (hn : n < 18446744073709551616) (hc : c < 256) : Calls Tryd.prog 59 #[.int .u64 n, .int .i64 i, .int .u8 c] w fun e w' => e = .returned (.int .u64 (putN n k c)) ∧ ∃ m, w' = w.drewN m := by
  have h8 := mod8 i
  go_enter Tryd.func59, Tryd.ntmps59
  go_wp2_with fail
  refine (shift_any _ _).mono ?_
  rintro e w' ⟨rfl, rfl⟩
  rw [hk] at h8 ⊢
  clear hk
  obtain rfl | rfl | rfl | rfl | rfl | rfl | rfl | rfl : k = 0 ∨ k = 1 ∨ k = 2 ∨ k = 3 ∨ k = 4 ∨ k = 5 ∨ k = 6 ∨ k = 7 := by omega
  all_goals clear h8
  · have e1 : bits .or .u64 (bits .andNot .u64 (n : Int) 255) (c : Int) = ((putN n 0 c : Nat) : Int) := by
      have e2 := put_u64 n 0 c hn (by decide) hc
      simp only [Nat.reducePow, Int.cast_ofNat_Int, Nat.mul_one] at e2
      exact e2
    go_wp2
    go_quiet (fail)
    go_wp2
    go_ret
    refine ⟨?_, _, rfl⟩
    first | rfl | (show Ending.returned (.int .u64 (bits .or .u64 (bits .andNot .u64 (n : Int) 255) (c : Int))) = _; rw [e1])
  · have e1 : bits .or .u64 (bits .andNot .u64 (n : Int) 65280) ((c : Int) * 256) = ((putN n 1 c : Nat) : Int) := by
      have e2 := put_u64 n 1 c hn (by decide) hc
      simp only [Nat.reducePow, Nat.reduceMul, Int.natCast_mul, Int.cast_ofNat_Int] at e2
      exact e2
    go_wp2
    go_quiet (fail)
    go_wp2
    go_ret
    refine ⟨?_, _, rfl⟩
    first | rfl | (show Ending.returned (.int .u64 (bits .or .u64 (bits .andNot .u64 (n : Int) 65280) ((c : Int) * 256))) = _; rw [e1])
  · have e1 : bits .or .u64 (bits .andNot .u64 (n : Int) 16711680) ((c : Int) * 65536) = ((putN n 2 c : Nat) : Int) := by
      have e2 := put_u64 n 2 c hn (by decide) hc
      simp only [Nat.reducePow, Nat.reduceMul, Int.natCast_mul, Int.cast_ofNat_Int] at e2
      exact e2
    go_wp2
    go_quiet (fail)
    go_wp2
    go_ret
    refine ⟨?_, _, rfl⟩
    first | rfl | (show Ending.returned (.int .u64 (bits .or .u64 (bits .andNot .u64 (n : Int) 16711680) ((c : Int) * 65536))) = _; rw [e1])
  · have e1 : bits .or .u64 (bits .andNot .u64 (n : Int) 4278190080) ((c : Int) * 16777216) = ((putN n 3 c : Nat) : Int) := by
      have e2 := put_u64 n 3 c hn (by decide) hc
      simp only [Nat.reducePow, Nat.reduceMul, Int.natCast_mul, Int.cast_ofNat_Int] at e2
      exact e2
    go_wp2
    go_quiet (fail)
    go_wp2
    go_ret
    refine ⟨?_, _, rfl⟩
    first | rfl | (show Ending.returned (.int .u64 (bits .or .u64 (bits .andNot .u64 (n : Int) 4278190080) ((c : Int) * 16777216))) = _; rw [e1])
  · have e1 : bits .or .u64 (bits .andNot .u64 (n : Int) 1095216660480) ((c : Int) * 4294967296) = ((putN n 4 c : Nat) : Int) := by
      have e2 := put_u64 n 4 c hn (by decide) hc
      simp only [Nat.reducePow, Nat.reduceMul, Int.natCast_mul, Int.cast_ofNat_Int] at e2
      exact e2
    go_wp2
    go_quiet (fail)
    go_wp2
    go_ret
    refine ⟨?_, _, rfl⟩
    first | rfl | (show Ending.returned (.int .u64 (bits .or .u64 (bits .andNot .u64 (n : Int) 1095216660480) ((c : Int) * 4294967296))) = _; rw [e1])
  · have e1 : bits .or .u64 (bits .andNot .u64 (n : Int) 280375465082880) ((c : Int) * 1099511627776) = ((putN n 5 c : Nat) : Int) := by
      have e2 := put_u64 n 5 c hn (by decide) hc
      simp only [Nat.reducePow, Nat.reduceMul, Int.natCast_mul, Int.cast_ofNat_Int] at e2
      exact e2
    go_wp2
    go_quiet (fail)
    go_wp2
    go_ret
    refine ⟨?_, _, rfl⟩
    first | rfl | (show Ending.returned (.int .u64 (bits .or .u64 (bits .andNot .u64 (n : Int) 280375465082880) ((c : Int) * 1099511627776))) = _; rw [e1])
  · have e1 : bits .or .u64 (bits .andNot .u64 (n : Int) 71776119061217280) ((c : Int) * 281474976710656) = ((putN n 6 c : Nat) : Int) := by
      have e2 := put_u64 n 6 c hn (by decide) hc
      simp only [Nat.reducePow, Nat.reduceMul, Int.natCast_mul, Int.cast_ofNat_Int] at e2
      exact e2
    go_wp2
    go_quiet (fail)
    go_wp2
    go_ret
    refine ⟨?_, _, rfl⟩
    first | rfl | (show Ending.returned (.int .u64 (bits .or .u64 (bits .andNot .u64 (n : Int) 71776119061217280) ((c : Int) * 281474976710656))) = _; rw [e1])
  · have e1 : bits .or .u64 (bits .andNot .u64 (n : Int) 18374686479671623680) ((c : Int) * 72057594037927936) = ((putN n 7 c : Nat) : Int) := by
      have e2 := put_u64 n 7 c hn (by decide) hc
      simp only [Nat.reducePow, Nat.reduceMul, Int.natCast_mul, Int.cast_ofNat_Int] at e2
      exact e2
    go_wp2
    go_quiet (fail)
    go_wp2
    go_ret
    refine ⟨?_, _, rfl⟩
    first | rfl | (show Ending.returned (.int .u64 (bits .or .u64 (bits .andNot .u64 (n : Int) 18374686479671623680) ((c : Int) * 72057594037927936))) = _; rw [e1])
end Go.Proofs.YtkjnifipepiahaaDoor
