import Derived.Test.YthlghokgknkpaaaGreatDoorAgg2To
/-
  Contracts: corbelref03.Get, Set.
-/
namespace Go.Proofs.YthlghokgknkpaaaGreatDoor
open Go.RowKit

theorem rem8 (i : Int) (k : Nat) (hk : i % 8 = k) : i.tmod 8 = k ∨ (i.tmod 8 = (k : Int) - 8 ∧ 0 < k ∧ k < 8) := by
  rw [Int.tmod_eq_emod]
  split
  · left; omega
  · right
    have : (8 : Int).natAbs = 8 := rfl
    omega

set_option maxHeartbeats 1000000 in
theorem rget_any (n : Nat) (i : Int) (k : Nat) (hk : i % 8 = k) (w : World) (hn : n < 18446744073709551616) : Calls Tryz.prog 75 #[.int .u64 n, .int .i64 i] w fun e w' => e = .returned (.int .u8 (byteN n k)) ∧ w' = w := by
  have hr := rem8 i k hk
  have hk8 : k < 8 := by omega
  clear hk
  rcases hr with hr | ⟨hr, hk0, hk8'⟩
  · obtain rfl | rfl | rfl | rfl | rfl | rfl | rfl | rfl : k = 0 ∨ k = 1 ∨ k = 2 ∨ k = 3 ∨ k = 4 ∨ k = 5 ∨ k = 6 ∨ k = 7 := by omega
    all_goals clear hk8
    all_goals go_enter Tryz.func75, Tryz.ntmps75
    all_goals go_wp2
    all_goals go_ret
    all_goals refine ⟨?_, rfl⟩
    all_goals simp [byteN]
    all_goals omega
  · obtain rfl | rfl | rfl | rfl | rfl | rfl | rfl : k = 1 ∨ k = 2 ∨ k = 3 ∨ k = 4 ∨ k = 5 ∨ k = 6 ∨ k = 7 := by omega
    all_goals clear hk8 hk0 hk8'
    all_goals go_enter Tryz.func75, Tryz.ntmps75
    all_goals go_wp2
    all_goals go_ret
    all_goals refine ⟨?_, rfl⟩
    all_goals simp [byteN]
    all_goals omega

theorem put_lit0 (n c : Nat) (hn : n < 18446744073709551616) (hc : c < 256) : bits .or .u64 (bits .andNot .u64 (n : Int) 255) (c : Int) = ((putN n 0 c : Nat) : Int) := by
  have e2 := put_u64 n 0 c hn (by decide) hc
  simp only [Nat.reducePow, Int.cast_ofNat_Int, Nat.mul_one] at e2
  exact e2
theorem put_lit1 (n c : Nat) (hn : n < 18446744073709551616) (hc : c < 256) : bits .or .u64 (bits .andNot .u64 (n : Int) 65280) ((c : Int) * 256) = ((putN n 1 c : Nat) : Int) := by
  have e2 := put_u64 n 1 c hn (by decide) hc
  simp only [Nat.reducePow, Nat.reduceMul, Int.natCast_mul, Int.cast_ofNat_Int] at e2
  exact e2
theorem put_lit2 (n c : Nat) (hn : n < 18446744073709551616) (hc : c < 256) : bits .or .u64 (bits .andNot .u64 (n : Int) 16711680) ((c : Int) * 65536) = ((putN n 2 c : Nat) : Int) := by
  have e2 := put_u64 n 2 c hn (by decide) hc
  simp only [Nat.reducePow, Nat.reduceMul, Int.natCast_mul, Int.cast_ofNat_Int] at e2
  exact e2
theorem put_lit3 (n c : Nat) (hn : n < 18446744073709551616) (hc : c < 256) : bits .or .u64 (bits .andNot .u64 (n : Int) 4278190080) ((c : Int) * 16777216) = ((putN n 3 c : Nat) : Int) := by
  have e2 := put_u64 n 3 c hn (by decide) hc
  simp only [Nat.reducePow, Nat.reduceMul, Int.natCast_mul, Int.cast_ofNat_Int] at e2
  exact e2
theorem put_lit4 (n c : Nat) (hn : n < 18446744073709551616) (hc : c < 256) : bits .or .u64 (bits .andNot .u64 (n : Int) 1095216660480) ((c : Int) * 4294967296) = ((putN n 4 c : Nat) : Int) := by
  have e2 := put_u64 n 4 c hn (by decide) hc
  simp only [Nat.reducePow, Nat.reduceMul, Int.natCast_mul, Int.cast_ofNat_Int] at e2
  exact e2
theorem put_lit5 (n c : Nat) (hn : n < 18446744073709551616) (hc : c < 256) : bits .or .u64 (bits .andNot .u64 (n : Int) 280375465082880) ((c : Int) * 1099511627776) = ((putN n 5 c : Nat) : Int) := by
  have e2 := put_u64 n 5 c hn (by decide) hc
  simp only [Nat.reducePow, Nat.reduceMul, Int.natCast_mul, Int.cast_ofNat_Int] at e2
  exact e2
theorem put_lit6 (n c : Nat) (hn : n < 18446744073709551616) (hc : c < 256) : bits .or .u64 (bits .andNot .u64 (n : Int) 71776119061217280) ((c : Int) * 281474976710656) = ((putN n 6 c : Nat) : Int) := by
  have e2 := put_u64 n 6 c hn (by decide) hc
  simp only [Nat.reducePow, Nat.reduceMul, Int.natCast_mul, Int.cast_ofNat_Int] at e2
  exact e2
theorem put_lit7 (n c : Nat) (hn : n < 18446744073709551616) (hc : c < 256) : bits .or .u64 (bits .andNot .u64 (n : Int) 18374686479671623680) ((c : Int) * 72057594037927936) = ((putN n 7 c : Nat) : Int) := by
  have e2 := put_u64 n 7 c hn (by decide) hc
  simp only [Nat.reducePow, Nat.reduceMul, Int.natCast_mul, Int.cast_ofNat_Int] at e2
  exact e2

set_option maxHeartbeats 2000000 in
theorem rset_any (n : Nat) (i : Int) (k c : Nat) (hk : i % 8 = k) (w : World) (hn : n < 18446744073709551616) (hc : c < 256) : Calls Tryz.prog 44 #[.int .u64 n, .int .i64 i, .int .u8 c] w fun e w' => e = .returned (.int .u64 (putN n k c)) ∧ w' = w := by
  have hr := rem8 i k hk
  have hk8 : k < 8 := by omega
  clear hk
  rcases hr with hr | ⟨hr, hk0, hk8'⟩
  · obtain rfl | rfl | rfl | rfl | rfl | rfl | rfl | rfl : k = 0 ∨ k = 1 ∨ k = 2 ∨ k = 3 ∨ k = 4 ∨ k = 5 ∨ k = 6 ∨ k = 7 := by omega
    all_goals clear hk8
    · have e1 := put_lit0 n c hn hc
      go_enter Tryz.func44, Tryz.ntmps44
      go_wp2
      go_ret
      refine ⟨?_, rfl⟩
      first | rfl | (show Ending.returned (.int .u64 (bits .or .u64 (bits .andNot .u64 (n : Int) 255) (c : Int))) = _; rw [e1])
    · have e1 := put_lit1 n c hn hc
      go_enter Tryz.func44, Tryz.ntmps44
      go_wp2
      go_ret
      refine ⟨?_, rfl⟩
      first | rfl | (show Ending.returned (.int .u64 (bits .or .u64 (bits .andNot .u64 (n : Int) 65280) ((c : Int) * 256))) = _; rw [e1])
    · have e1 := put_lit2 n c hn hc
      go_enter Tryz.func44, Tryz.ntmps44
      go_wp2
      go_ret
      refine ⟨?_, rfl⟩
      first | rfl | (show Ending.returned (.int .u64 (bits .or .u64 (bits .andNot .u64 (n : Int) 16711680) ((c : Int) * 65536))) = _; rw [e1])
    · have e1 := put_lit3 n c hn hc
      go_enter Tryz.func44, Tryz.ntmps44
      go_wp2
      go_ret
      refine ⟨?_, rfl⟩
      first | rfl | (show Ending.returned (.int .u64 (bits .or .u64 (bits .andNot .u64 (n : Int) 4278190080) ((c : Int) * 16777216))) = _; rw [e1])
    · have e1 := put_lit4 n c hn hc
      go_enter Tryz.func44, Tryz.ntmps44
      go_wp2
      go_ret
      refine ⟨?_, rfl⟩
      first | rfl | (show Ending.returned (.int .u64 (bits .or .u64 (bits .andNot .u64 (n : Int) 1095216660480) ((c : Int) * 4294967296))) = _; rw [e1])
    · have e1 := put_lit5 n c hn hc
      go_enter Tryz.func44, Tryz.ntmps44
      go_wp2
      go_ret
      refine ⟨?_, rfl⟩
      first | rfl | (show Ending.returned (.int .u64 (bits .or .u64 (bits .andNot .u64 (n : Int) 280375465082880) ((c : Int) * 1099511627776))) = _; rw [e1])
    · have e1 := put_lit6 n c hn hc
      go_enter Tryz.func44, Tryz.ntmps44
      go_wp2
      go_ret
      refine ⟨?_, rfl⟩
      first | rfl | (show Ending.returned (.int .u64 (bits .or .u64 (bits .andNot .u64 (n : Int) 71776119061217280) ((c : Int) * 281474976710656))) = _; rw [e1])
    · have e1 := put_lit7 n c hn hc
      go_enter Tryz.func44, Tryz.ntmps44
      go_wp2
      go_ret
      refine ⟨?_, rfl⟩
      first | rfl | (show Ending.returned (.int .u64 (bits .or .u64 (bits .andNot .u64 (n : Int) 18374686479671623680) ((c : Int) * 72057594037927936))) = _; rw [e1])
  · obtain rfl | rfl | rfl | rfl | rfl | rfl | rfl : k = 1 ∨ k = 2 ∨ k = 3 ∨ k = 4 ∨ k = 5 ∨ k = 6 ∨ k = 7 := by omega
    all_goals clear hk8 hk0 hk8'
    · have e1 := put_lit1 n c hn hc
      go_enter Tryz.func44, Tryz.ntmps44
      go_wp2
      go_ret
      refine ⟨?_, rfl⟩
      first | rfl | (show Ending.returned (.int .u64 (bits .or .u64 (bits .andNot .u64 (n : Int) 65280) ((c : Int) * 256))) = _; rw [e1])
    · have e1 := put_lit2 n c hn hc
      go_enter Tryz.func44, Tryz.ntmps44
      go_wp2
      go_ret
      refine ⟨?_, rfl⟩
      first | rfl | (show Ending.returned (.int .u64 (bits .or .u64 (bits .andNot .u64 (n : Int) 16711680) ((c : Int) * 65536))) = _; rw [e1])
    · have e1 := put_lit3 n c hn hc
      go_enter Tryz.func44, Tryz.ntmps44
      go_wp2
      go_ret
      refine ⟨?_, rfl⟩
      first | rfl | (show Ending.returned (.int .u64 (bits .or .u64 (bits .andNot .u64 (n : Int) 4278190080) ((c : Int) * 16777216))) = _; rw [e1])
    · have e1 := put_lit4 n c hn hc
      go_enter Tryz.func44, Tryz.ntmps44
      go_wp2
      go_ret
      refine ⟨?_, rfl⟩
      first | rfl | (show Ending.returned (.int .u64 (bits .or .u64 (bits .andNot .u64 (n : Int) 1095216660480) ((c : Int) * 4294967296))) = _; rw [e1])
    · have e1 := put_lit5 n c hn hc
      go_enter Tryz.func44, Tryz.ntmps44
      go_wp2
      go_ret
      refine ⟨?_, rfl⟩
      first | rfl | (show Ending.returned (.int .u64 (bits .or .u64 (bits .andNot .u64 (n : Int) 280375465082880) ((c : Int) * 1099511627776))) = _; rw [e1])
    · have e1 := put_lit6 n c hn hc
      go_enter Tryz.func44, Tryz.ntmps44
      go_wp2
      go_ret
      refine ⟨?_, rfl⟩
      first | rfl | (show Ending.returned (.int .u64 (bits .or .u64 (bits .andNot .u64 (n : Int) 71776119061217280) ((c : Int) * 281474976710656))) = _; rw [e1])
    · have e1 := put_lit7 n c hn hc
      go_enter Tryz.func44, Tryz.ntmps44
      go_wp2
      go_ret
      refine ⟨?_, rfl⟩
      first | rfl | (show Ending.returned (.int .u64 (bits .or .u64 (bits .andNot .u64 (n : Int) 18374686479671623680) ((c : Int) * 72057594037927936))) = _; rw [e1])
end Go.Proofs.YthlghokgknkpaaaGreatDoor

/-
  Contracts: corbelref03.Match, Free, Full.
-/
namespace Go.Proofs.YthlghokgknkpaaaGreatDoor
open Go.RowKit

theorem rget_at {i : Int} (n k : Nat) (hi : i = k) (hk : k < 8) (w : World) (hn : n < 18446744073709551616) : Calls Tryz.prog 75 #[.int .u64 n, .int .i64 i] w fun e w' => e = .returned (.int .u8 (byteN n k)) ∧ w' = w :=
  rget_any n i k (by omega) w hn
theorem st_same (j : Nat) (m : Nat → Nat) (e : m j = 0) : st (j + 1) m = st j m := by
  show st j m + m j * 2 ^ j = st j m
  rw [e, Nat.zero_mul, Nat.add_zero]

theorem pow_u8 (j : Nat) (hj : j < 8) : ((2 ^ j : Nat) : Int) = 2 ^ j % 256 := (by decide : ∀ j : Fin 8, ((2 ^ j.val : Nat) : Int) = 2 ^ j.val % 256) ⟨j, hj⟩

set_option maxHeartbeats 1000000 in
theorem rmatch_any (n h : Nat) (w : World) (hn : n < 18446744073709551616) : Calls Tryz.prog 43 #[.int .u64 n, .int .u8 h] w fun e w' => e = .returned (.int .u8 (matchN n h)) ∧ w' = w := by
  go_enter Tryz.func43, Tryz.ntmps43
  go_wp2
  go_loop [5, 6] (fun o t => ∃ j : Nat, j ≤ 8 ∧ t = .int .i64 j ∧ o = .int .u8 (st j (fun i => if byteN n i = h then 1 else 0) : Nat)) (fun _ t => 8 - (intOf t).toNat)
  case atStart => exact ⟨0, by decide, rfl, rfl⟩
  case round =>
    obtain ⟨j, hj, rfl, rfl⟩ := hrel
    by_cases hlt : j < 8
    · by_cases hx : byteN n j = h
      · have hs := st_or j (fun i => if byteN n i = h then 1 else 0) (fun _ => ite_lt2 _) (if_pos hx)
        have hl : st j (fun i => if byteN n i = h then 1 else 0) < 2 ^ j := st_lt j _ (fun _ => ite_lt2 _)
        have hp : 2 ^ j ≤ 128 := (by decide : ∀ j : Fin 8, 2 ^ j.val ≤ 128) ⟨j, hlt⟩
        have e1 := u8_or_nat (st j (fun i => if byteN n i = h then 1 else 0)) (2 ^ j) (by omega) (by omega)
        rw [hs, pow_u8 j hlt] at e1
        generalize st j (fun i => if byteN n i = h then 1 else 0) = o at *
        have e2 : Hid (bits .or .u8 (o : Int) (2 ^ j % 256) = (st (j + 1) (fun i => if byteN n i = h then 1 else 0) : Nat)) := e1
        clear e1 hs hl hp
        go_wp2_with fail
        refine same_mono (rget_at n j rfl hlt _ hn) ?_
        rw [hx]
        go_wp2
        refine ⟨⟨j + 1, by omega, rfl, by rw [e2.out]⟩, by simp only [intOf]; omega⟩
      · have hs := st_same j (fun i => if byteN n i = h then 1 else 0) (if_neg hx)
        go_wp2_with fail
        refine same_mono (rget_at n j rfl hlt _ hn) ?_
        have hx2 : (byteN n j : Int) ≠ h := by omega
        go_wp2
        refine ⟨⟨j + 1, by omega, rfl, by rw [hs]⟩, by simp only [intOf]; omega⟩
    · obtain rfl : j = 8 := by omega
      go_wp2
      go_ret
      exact ⟨rfl, rfl⟩

set_option maxHeartbeats 1000000 in
theorem rfree_any (n : Nat) (w : World) (hn : n < 18446744073709551616) : Calls Tryz.prog 77 #[.int .u64 n] w fun e w' => e = .returned (.int .u8 (freeN n)) ∧ w' = w := by
  have e1 := u8_or_nat _ _ (matchN_lt n 128) (matchN_lt n 254)
  rw [free_eq] at e1
  go_enter Tryz.func77, Tryz.ntmps77
  go_wp2_with fail
  refine same_mono (rmatch_any n 128 _ hn) ?_
  go_wp2_with fail
  refine same_mono (rmatch_any n 254 _ hn) ?_
  go_wp2
  go_ret
  exact ⟨rfl, rfl⟩
end Go.Proofs.YthlghokgknkpaaaGreatDoor

/-
  Contracts: corbelref03.First, Count.
-/
namespace Go.Proofs.YthlghokgknkpaaaGreatDoor
open Go.RowKit

theorem bit_u8 (m k : Nat) (hm : m < 256) : bits .and .u8 ((m : Int) / 2 ^ k) 1 = ((m / 2 ^ k % 2 : Nat) : Int) := by
  have e : ((m : Int) / 2 ^ k) = ((m / 2 ^ k : Nat) : Int) := by rw [Int.natCast_ediv, Int.natCast_pow]; rfl
  rw [e, show (1 : Int) = ((1 : Nat) : Int) from rfl, u8_and_nat _ 1 (Nat.lt_of_le_of_lt (Nat.div_le_self _ _) hm) (by decide), nat_mask1]

/-- The lowest slot, as the loop finds it. -/
theorem first_at : ∀ s : Fin 256, ∀ j : Fin 8, (∀ i : Fin 8, i.val < j.val → s.val / 2 ^ i.val % 2 = 0) → s.val / 2 ^ j.val % 2 = 1 → firstN s.val = j.val := by decide +kernel
theorem first_none : ∀ s : Fin 256, (∀ i : Fin 8, s.val / 2 ^ i.val % 2 = 0) → firstN s.val = 8 := by decide +kernel

set_option maxRecDepth 10000 in
set_option maxHeartbeats 1000000 in
theorem rfirst_any (s : Nat) (w : World) (hs : s < 256) : Calls Tryz.prog 76 #[.int .u8 s] w fun e w' => e = .returned (.int .i64 (firstN s : Nat)) ∧ w' = w := by
  go_enter Tryz.func76, Tryz.ntmps76
  go_wp2
  go_loop [3] (fun t => ∃ j : Nat, j ≤ 8 ∧ t = .int .i64 j ∧ Hid (∀ i : Fin 8, i.val < j → s / 2 ^ i.val % 2 = 0)) (fun t => 8 - (intOf t).toNat)
  case atStart => exact ⟨0, by decide, rfl, fun i hi => absurd hi (Nat.not_lt_zero _)⟩
  case round =>
    obtain ⟨j, hj, rfl, hz⟩ := hrel
    by_cases hlt : j < 8
    · have hb := bit_u8 s j hs
      by_cases hx : s / 2 ^ j % 2 = 1
      · have hf : Hid (firstN s = j) := first_at ⟨s, hs⟩ ⟨j, hlt⟩ hz.out hx
        rw [hx] at hb
        clear hx
        go_wp2
        go_ret
        refine ⟨?_, rfl⟩
        rw [hf.out]
        rfl
      · have hx0 : s / 2 ^ j % 2 = 0 := by omega
        rw [hx0] at hb
        have hz2 : Hid (∀ i : Fin 8, i.val < j + 1 → s / 2 ^ i.val % 2 = 0) := fun i hi => by
          by_cases e : i.val = j
          · rw [e]; exact hx0
          · exact hz.out i (by omega)
        clear hx hx0
        go_wp2
        refine ⟨⟨j + 1, by omega, rfl, hz2⟩, by simp only [intOf]; omega⟩
    · obtain rfl : j = 8 := by omega
      have hf : Hid (firstN s = 8) := first_none ⟨s, hs⟩ (fun i => hz.out i i.isLt)
      go_wp2
      go_ret
      refine ⟨?_, rfl⟩
      rw [hf.out]
      rfl

/-- How many there are below a slot. -/
def cntU (s j : Nat) : Nat := ((List.range j).filter fun i => s / 2 ^ i % 2 = 1).length
theorem cntU_succ (s j : Nat) : cntU s (j + 1) = cntU s j + s / 2 ^ j % 2 := by
  unfold cntU
  rw [List.range_succ, List.filter_append, List.length_append]
  congr 1
  by_cases h : s / 2 ^ j % 2 = 1
  · rw [h]; simp [h]
  · have : s / 2 ^ j % 2 = 0 := by omega
    rw [this]; simp [this]
theorem cntU_le (s j : Nat) : cntU s j ≤ j := by
  have := List.length_filter_le (fun i => decide (s / 2 ^ i % 2 = 1)) (List.range j)
  rw [List.length_range] at this
  exact this
end Go.Proofs.YthlghokgknkpaaaGreatDoor
