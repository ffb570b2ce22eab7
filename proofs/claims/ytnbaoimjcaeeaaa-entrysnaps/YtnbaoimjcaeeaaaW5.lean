/-
  Contracts: math/bits.Len8, LeadingZeros8, codec.Get.
-/
import Derived.Test.YtnbaoimjcaeeaaaW1
import Derived.Test.YtnbaoimjcaeeaaaGet0
import Derived.BigQuiet
import Derived.WalkSmall
namespace Go.Proofs.Ytnbaoimjcaeeaaa
open Go.RowKit

set_option maxHeartbeats 400000 in
set_option maxRecDepth 10000 in
theorem len8_any (x : Int) (w : World) (h0 : 0 ≤ x) (h1 : x ≤ 255) :
    Calls Try.prog 130 #[.int .u8 x] w fun e w' => e = .returned (.int .i64 (Lib.bitLen x.toNat)) ∧ w' = w := by
  go_enter Try.func130, Try.ntmps130
  go_wp2
  go_ret
  refine ⟨ret_int ?_, rfl⟩
  have hb := Lib.bitLen_le8' x h0 h1
  rw [Lib.len8_of x h0 h1, IntWalk.wrap64_in _ ⟨by omega, by omega⟩]

set_option maxRecDepth 100000 in
set_option maxHeartbeats 400000 in
theorem lz8_any (x : Int) (w : World) (h0 : 0 ≤ x) (h1 : x ≤ 255) :
    Calls Try.prog 127 #[.int .u8 x] w fun e w' => e = .returned (.int .i64 (8 - (Lib.bitLen x.toNat : Int))) ∧ w' = w := by
  have hb := Lib.bitLen_le8' x h0 h1
  go_enter Try.func127, Try.ntmps127
  go_wp2_with (go_at_call 130; refine same_mono (len8_any _ _ (by omega) (by omega)) ?_)
  go_ret
  exact ⟨rfl, rfl⟩

set_option maxRecDepth 100000 in
set_option maxHeartbeats 1000000 in
theorem get_cod (v : Value) (xs : List Int) (w : World) (hv : Has w v xs) (hB : IsB xs) (hl : xs.length ≤ 1099511627776) :
    Calls Try.prog 123 #[v] w fun e w' => e = .returned (.tuple #[.int .u64 (getS xs).1, .int .i64 ((getS xs).2 : Nat)]) ∧ Below w.heap.size w w' := by
  obtain ⟨p, c, rfl, hc, hnone, hcell⟩ := hv
  clear hnone
  rcases Nat.eq_zero_or_pos xs.length with hn | hn
  · obtain rfl : xs = [] := List.eq_nil_of_length_eq_zero hn
    go_enter Try.func123, Try.ntmps123
    go_wp2
    go_ret2
    exact ⟨rfl, Below.refl _ _⟩
  · obtain ⟨b, o, rfl, hbl, hcl⟩ := hcell hn
    have hx := hB.getD 0
    have hc0 := hcl 0 hn
    rw [Nat.add_zero] at hc0
    have hk := lead_le (xs.getD 0 0)
    have HL := lead_len (xs.getD 0 0)
    have HS : Hid (getS xs = if xs.length ≤ lead (xs.getD 0 0) then (0, 0)
      else if lead (xs.getD 0 0) = more (gacc xs (lead (xs.getD 0 0)) (lead (xs.getD 0 0))).toNat then (gacc xs (lead (xs.getD 0 0)) (lead (xs.getD 0 0)), lead (xs.getD 0 0) + 1)
      else (0, 0)) := rfl
    have HG : ∀ k, Hid (gacc xs k 0 = g0 (xs.getD 0 0) k) := gacc_zero xs
    generalize xs.getD 0 0 = x at *
    generalize lead x = k at *
    have HLL : Hid ((8 : Int) - (Lib.bitLen (bits BinOp.xor .u8 IntKind.u8.max x).toNat : Int) = (k : Int)) := HL
    clear HL
    have hxb0 := bits_lo_u8 BinOp.xor IntKind.u8.max x
    have hxb1 := bits_hi_u8 BinOp.xor IntKind.u8.max x
    by_cases hlk : xs.length ≤ k
    · go_enter Try.func123, Try.ntmps123
      go_wp2_with (go_at_call 127; refine same_mono (lz8_any _ _ (by omega) (by omega)) ?_; rw [HLL.out])
      go_ret2
      rw [HS.out, if_pos hlk]
      exact ⟨rfl, Below.refl _ _⟩
    · have hg0 := bits_lo_u8 BinOp.and x (127 / 2 ^ k)
      have hg1 := bits_hi_u8 BinOp.and x (127 / 2 ^ k)
      have HA : ∀ j, j < k → Hid (gacc xs k (j + 1) = gs (gacc xs k j) (xs.getD (j + 1) 0)) := fun j hj => gacc_succ xs k j (by omega)
      have HAB := fun j => gacc_bd xs k j
      have hBj := fun j => hB.getD j
      clear hB hcell
      have hG0 : Hid (gacc xs k 0 = g0 x k) := HG k
      clear HG
      generalize gacc xs k = G at *
      by_cases hc1 : c = 1
      all_goals
        go_enter Try.func123, Try.ntmps123
        go_wp2_with (go_at_call 127; refine same_mono (lz8_any _ _ (by omega) (by omega)) ?_; rw [HLL.out])
        go_quiet (fail)
        go_wp2
        go_loopw [5, 32] (fun u i wr => ∃ j : Nat, j ≤ k ∧ i = .int .i64 j ∧ u = .int .u64 (G j) ∧ Below w.heap.size w wr) (fun _ i _ => k - (intOf i).toNat)
        case atStart => exact ⟨0, Nat.zero_le _, rfl, by rw [hG0.out]; rfl, below_drewN (Below.refl _ _) _⟩
        case round =>
          obtain ⟨j, hj, rfl, rfl, hbr⟩ := hrel
          by_cases hlt : j < k
          · first
              | (exfalso; omega)
              | (have h1 := (hbr.cell (p := ⟨b, o + (j + 1), none⟩) hbl).trans (hcl (j + 1) (by omega))
                 have e : o + (j + 1) = o + 1 + j := by omega
                 rw [e] at h1
                 have hb1 := hBj (j + 1)
                 have hGb := HAB j
                 have HAj := HA j hlt
                 clear hcl hBj HAB HA e
                 generalize xs.getD (j + 1) 0 = y at *
                 go_wp2
                 go_roundw
                 case rel => exact ⟨j + 1, by omega, by go_num, by rw [HAj.out]; rfl, hbr⟩
                 case measure => simp [intOf]; omega)
          · obtain rfl : j = k := by omega
            have hGb := HAB j
            by_cases hm : j = more (G j).toNat
            · have hmb : ((j : Int) != (more (G j).toNat : Int)) = false := by rw [← hm]; simp
              have HM : Hid (j = more (G j).toNat) := hm
              clear hm
              go_wp2_with (go_at_call 126; refine same_mono (tail_any _ _ (by omega) (by omega)) ?_)
              go_ret2
              rw [HS.out, if_neg hlk, if_pos HM.out]
              exact ⟨rfl, hbr⟩
            · have hmb : ((j : Int) != (more (G j).toNat : Int)) = true := by simp; omega
              go_wp2_with (go_at_call 126; refine same_mono (tail_any _ _ (by omega) (by omega)) ?_)
              go_ret2
              rw [HS.out, if_neg hlk, if_neg hm]
              exact ⟨rfl, hbr⟩
end Go.Proofs.Ytnbaoimjcaeeaaa
