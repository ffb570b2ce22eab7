/-
  Contracts: corbelref03.Match, Free, Full.
-/
import Derived.Test.YtnnenapmmfmgcaaDoorG4
namespace Go.Proofs.YtnnenapmmfmgcaaDoor
open Go.RowKit

theorem rget_at {i : Int} (n k : Nat) (hi : i = k) (hk : k < 8) (w : World) (hn : n < 18446744073709551616) : Calls Tryd.prog 10 #[.int .u64 n, .int .i64 i] w fun e w' => e = .returned (.int .u8 (byteN n k)) ∧ w' = w :=
  rget_any n i k (by omega) w hn
theorem st_same (j : Nat) (m : Nat → Nat) (e : m j = 0) : st (j + 1) m = st j m := by
  show st j m + m j * 2 ^ j = st j m
  rw [e, Nat.zero_mul, Nat.add_zero]

theorem pow_u8 (j : Nat) (hj : j < 8) : ((2 ^ j : Nat) : Int) = 2 ^ j % 256 := (by decide : ∀ j : Fin 8, ((2 ^ j.val : Nat) : Int) = 2 ^ j.val % 256) ⟨j, hj⟩

set_option maxHeartbeats 1000000 in
theorem rmatch_any (n h : Nat) (w : World) (hn : n < 18446744073709551616) : Calls Tryd.prog 15 #[.int .u64 n, .int .u8 h] w fun e w' => e = .returned (.int .u8 (matchN n h)) ∧ w' = w := by
  go_enter Tryd.func15, Tryd.ntmps15
  go_wp2
  go_loop [5, 6] (fun o t => ∃ j : Nat, j ≤ 8 ∧ t = .int .i64 j ∧ o = .int .u8 (st j (fun i => if byteN n i = h then 1 else 0) : Nat)) (fun _ t => 8 - (intOf t).toNat)
  case atStart => exact ⟨0, by decide, rfl, rfl⟩
  case round =>
    obtain ⟨j, hj, rfl, rfl⟩ := hrel
    by_cases hlt : j < 8
    · by_cases hx : byteN n j = h
      · have hs := st_or j (fun i => if byteN n i = h then 1 else 0) (fun _ => ite_lt2 _) (if_pos hx)
        have hl : st j (fun i => if byteN n i = h then 1 else 0) < 2 ^ j := st_lt j _ (fun _ => ite_lt2 _)
        have hp : 2 ^ j ≤ 128 := (by decide : ∀ j : Fin 8, 2 ^ j.val ≤ 128) ⟨j, hlt⟩
        have e1 := u8_or_nat (st j (fun i => if byteN n i = h then 1 else 0)) (2 ^ j) (by omega) (by omega)
        rw [hs, pow_u8 j hlt] at e1
        generalize st j (fun i => if byteN n i = h then 1 else 0) = o at *
        have e2 : Hid (bits .or .u8 (o : Int) (2 ^ j % 256) = (st (j + 1) (fun i => if byteN n i = h then 1 else 0) : Nat)) := e1
        clear e1 hs hl hp
        go_wp2_with fail
        refine same_mono (rget_at n j rfl hlt _ hn) ?_
        rw [hx]
        go_wp2
        refine ⟨⟨j + 1, by omega, rfl, by rw [e2.out]⟩, by simp only [intOf]; omega⟩
      · have hs := st_same j (fun i => if byteN n i = h then 1 else 0) (if_neg hx)
        go_wp2_with fail
        refine same_mono (rget_at n j rfl hlt _ hn) ?_
        have hx2 : (byteN n j : Int) ≠ h := by omega
        go_wp2
        refine ⟨⟨j + 1, by omega, rfl, by rw [hs]⟩, by simp only [intOf]; omega⟩
    · obtain rfl : j = 8 := by omega
      go_wp2
      go_ret
      exact ⟨rfl, rfl⟩

set_option maxHeartbeats 1000000 in
theorem rfree_any (n : Nat) (w : World) (hn : n < 18446744073709551616) : Calls Tryd.prog 18 #[.int .u64 n] w fun e w' => e = .returned (.int .u8 (freeN n)) ∧ w' = w := by
  have e1 := u8_or_nat _ _ (matchN_lt n 128) (matchN_lt n 254)
  rw [free_eq] at e1
  go_enter Tryd.func18, Tryd.ntmps18
  go_wp2_with fail
  refine same_mono (rmatch_any n 128 _ hn) ?_
  go_wp2_with fail
  refine same_mono (rmatch_any n 254 _ hn) ?_
  go_wp2
  go_ret
  exact ⟨rfl, rfl⟩

set_option maxRecDepth 10000 in
set_option maxHeartbeats 1000000 in
theorem rfull_any (n : Nat) (w : World) (hn : n < 18446744073709551616) : Calls Tryd.prog 20 #[.int .u64 n] w fun e w' => e = .returned (.int .u8 (fullN n)) ∧ w' = w := by
  go_enter Tryd.func20, Tryd.ntmps20
  go_wp2
  go_loop [3, 4] (fun o t => ∃ j : Nat, j ≤ 8 ∧ t = .int .i64 j ∧ o = .int .u8 (st j (fun i => if byteN n i < 128 then 1 else 0) : Nat)) (fun _ t => 8 - (intOf t).toNat)
  case atStart => exact ⟨0, by decide, rfl, rfl⟩
  case round =>
    obtain ⟨j, hj, rfl, rfl⟩ := hrel
    by_cases hlt : j < 8
    · by_cases hx : byteN n j < 128
      · have hs := st_or j (fun i => if byteN n i < 128 then 1 else 0) (fun _ => ite_lt2 _) (if_pos hx)
        have hl : st j (fun i => if byteN n i < 128 then 1 else 0) < 2 ^ j := st_lt j _ (fun _ => ite_lt2 _)
        have hp : 2 ^ j ≤ 128 := (by decide : ∀ j : Fin 8, 2 ^ j.val ≤ 128) ⟨j, hlt⟩
        have e1 := u8_or_nat (st j (fun i => if byteN n i < 128 then 1 else 0)) (2 ^ j) (by omega) (by omega)
        rw [hs, pow_u8 j hlt] at e1
        generalize st j (fun i => if byteN n i < 128 then 1 else 0) = o at *
        have e2 : Hid (bits .or .u8 (o : Int) (2 ^ j % 256) = (st (j + 1) (fun i => if byteN n i < 128 then 1 else 0) : Nat)) := e1
        clear e1 hs hl hp
        go_wp2_with fail
        refine same_mono (rget_at n j rfl hlt _ hn) ?_
        have hx2 : (byteN n j : Int) < 128 := by omega
        go_wp2
        refine ⟨⟨j + 1, by omega, rfl, by rw [e2.out]⟩, by simp only [intOf]; omega⟩
      · have hs : Hid (st (j + 1) (fun i => if byteN n i < 128 then 1 else 0) = st j (fun i => if byteN n i < 128 then 1 else 0)) := st_same j (fun i => if byteN n i < 128 then 1 else 0) (if_neg hx)
        go_wp2_with fail
        refine same_mono (rget_at n j rfl hlt _ hn) ?_
        have hx2 : ¬ (byteN n j : Int) < 128 := by omega
        clear hx
        generalize byteN n j = y at hx2 ⊢
        have hs2 : ∃ o, st j (fun i => if byteN n i < 128 then 1 else 0) = o := ⟨_, rfl⟩
        obtain ⟨o, ho⟩ := hs2
        have ho2 : Hid (st (j + 1) (fun i => if byteN n i < 128 then 1 else 0) = o) := hs.out.trans ho
        rw [ho]
        clear ho hs
        go_wp2
        refine ⟨⟨j + 1, by omega, rfl, by rw [ho2.out]⟩, by simp only [intOf]; omega⟩
    · obtain rfl : j = 8 := by omega
      go_wp2
      go_ret
      exact ⟨rfl, rfl⟩
end Go.Proofs.YtnnenapmmfmgcaaDoor
