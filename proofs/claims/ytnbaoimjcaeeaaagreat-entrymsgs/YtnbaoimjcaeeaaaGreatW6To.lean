import Derived.Test.YtnbaoimjcaeeaaaGreatW1To
import Derived.Test.YtnbaoimjcaeeaaaGreatGet0To
import Derived.BigQuiet
import Derived.WalkSmall
/-
  Contracts: math/bits.Len8, LeadingZeros8, codec.Get.
-/
namespace Go.Proofs.YtnbaoimjcaeeaaaGreat
open Go.RowKit

set_option maxHeartbeats 400000 in
set_option maxRecDepth 10000 in
theorem len8_any (x : Int) (w : World) (h0 : 0 ≤ x) (h1 : x ≤ 255) :
    Calls Tryz.prog 146 #[.int .u8 x] w fun e w' => e = .returned (.int .i64 (Lib.bitLen x.toNat)) ∧ w' = w := by
  go_enter Tryz.func146, Tryz.ntmps146
  go_wp2
  go_ret
  refine ⟨ret_int ?_, rfl⟩
  have hb := Lib.bitLen_le8' x h0 h1
  rw [Lib.len8_of x h0 h1, IntWalk.wrap64_in _ ⟨by omega, by omega⟩]

set_option maxRecDepth 100000 in
set_option maxHeartbeats 400000 in
theorem lz8_any (x : Int) (w : World) (h0 : 0 ≤ x) (h1 : x ≤ 255) :
    Calls Tryz.prog 143 #[.int .u8 x] w fun e w' => e = .returned (.int .i64 (8 - (Lib.bitLen x.toNat : Int))) ∧ w' = w := by
  have hb := Lib.bitLen_le8' x h0 h1
  go_enter Tryz.func143, Tryz.ntmps143
  go_wp2_with (go_at_call 146; refine same_mono (len8_any _ _ (by omega) (by omega)) ?_)
  go_ret
  exact ⟨rfl, rfl⟩

set_option maxRecDepth 100000 in
set_option maxHeartbeats 1000000 in
theorem get_cod (v : Value) (xs : List Int) (w : World) (hv : Has w v xs) (hB : IsB xs) (hl : xs.length ≤ 1099511627776) :
    Calls Tryz.prog 139 #[v] w fun e w' => e = .returned (.tuple #[.int .u64 (getS xs).1, .int .i64 ((getS xs).2 : Nat)]) ∧ Below w.heap.size w w' := by
  obtain ⟨p, c, rfl, hc, hnone, hcell⟩ := hv
  clear hnone
  rcases Nat.eq_zero_or_pos xs.length with hn | hn
  · obtain rfl : xs = [] := List.eq_nil_of_length_eq_zero hn
    go_enter Tryz.func139, Tryz.ntmps139
    go_wp2
    go_ret2
    exact ⟨rfl, Below.refl _ _⟩
  · obtain ⟨b, o, rfl, hbl, hcl⟩ := hcell hn
    have hx := hB.getD 0
    have hc0 := hcl 0 hn
    rw [Nat.add_zero] at hc0
    have hk := lead_le (xs.getD 0 0)
    have HL := lead_len (xs.getD 0 0)
    have HS : Hid (getS xs = if xs.length ≤ lead (xs.getD 0 0) then (0, 0)
      else if lead (xs.getD 0 0) = more (gacc xs (lead (xs.getD 0 0)) (lead (xs.getD 0 0))).toNat then (gacc xs (lead (xs.getD 0 0)) (lead (xs.getD 0 0)), lead (xs.getD 0 0) + 1)
      else (0, 0)) := rfl
    have HG : ∀ k, Hid (gacc xs k 0 = g0 (xs.getD 0 0) k) := gacc_zero xs
    generalize xs.getD 0 0 = x at *
    generalize lead x = k at *
    have HLL : Hid ((8 : Int) - (Lib.bitLen (bits BinOp.xor .u8 IntKind.u8.max x).toNat : Int) = (k : Int)) := HL
    clear HL
    have hxb0 := bits_lo_u8 BinOp.xor IntKind.u8.max x
    have hxb1 := bits_hi_u8 BinOp.xor IntKind.u8.max x
    by_cases hlk : xs.length ≤ k
    · go_enter Tryz.func139, Tryz.ntmps139
      go_wp2_with (go_at_call 143; refine same_mono (lz8_any _ _ (by omega) (by omega)) ?_; rw [HLL.out])
      go_ret2
      rw [HS.out, if_pos hlk]
      exact ⟨rfl, Below.refl _ _⟩
    · have hg0 := bits_lo_u8 BinOp.and x (127 / 2 ^ k)
      have hg1 := bits_hi_u8 BinOp.and x (127 / 2 ^ k)
      have HA : ∀ j, j < k → Hid (gacc xs k (j + 1) = gs (gacc xs k j) (xs.getD (j + 1) 0)) := fun j hj => gacc_succ xs k j (by omega)
      have HAB := fun j => gacc_bd xs k j
      have hBj := fun j => hB.getD j
      clear hB hcell
      have hG0 : Hid (gacc xs k 0 = g0 x k) := HG k
      clear HG
      generalize gacc xs k = G at *
      by_cases hc1 : c = 1
      all_goals
        go_enter Tryz.func139, Tryz.ntmps139
        go_wp2_with (go_at_call 143; refine same_mono (lz8_any _ _ (by omega) (by omega)) ?_; rw [HLL.out])
        go_quiet (fail)
        go_wp2
        go_loopw [5, 32] (fun u i wr => ∃ j : Nat, j ≤ k ∧ i = .int .i64 j ∧ u = .int .u64 (G j) ∧ Below w.heap.size w wr) (fun _ i _ => k - (intOf i).toNat)
        case atStart => exact ⟨0, Nat.zero_le _, rfl, by rw [hG0.out]; rfl, below_drewN (Below.refl _ _) _⟩
        case round =>
          obtain ⟨j, hj, rfl, rfl, hbr⟩ := hrel
          by_cases hlt : j < k
          · first
              | (exfalso; omega)
              | (have h1 := (hbr.cell (p := ⟨b, o + (j + 1), none⟩) hbl).trans (hcl (j + 1) (by omega))
                 have e : o + (j + 1) = o + 1 + j := by omega
                 rw [e] at h1
                 have hb1 := hBj (j + 1)
                 have hGb := HAB j
                 have HAj := HA j hlt
                 clear hcl hBj HAB HA e
                 generalize xs.getD (j + 1) 0 = y at *
                 go_wp2
                 go_roundw
                 case rel => exact ⟨j + 1, by omega, by go_num, by rw [HAj.out]; rfl, hbr⟩
                 case measure => simp [intOf]; omega)
          · obtain rfl : j = k := by omega
            have hGb := HAB j
            by_cases hm : j = more (G j).toNat
            · have hmb : ((j : Int) != (more (G j).toNat : Int)) = false := by rw [← hm]; simp
              have HM : Hid (j = more (G j).toNat) := hm
              clear hm
              go_wp2_with (go_at_call 142; refine same_mono (tail_any _ _ (by omega) (by omega)) ?_)
              go_ret2
              rw [HS.out, if_neg hlk, if_pos HM.out]
              exact ⟨rfl, hbr⟩
            · have hmb : ((j : Int) != (more (G j).toNat : Int)) = true := by simp; omega
              go_wp2_with (go_at_call 142; refine same_mono (tail_any _ _ (by omega) (by omega)) ?_)
              go_ret2
              rw [HS.out, if_neg hlk, if_neg hm]
              exact ⟨rfl, hbr⟩
end Go.Proofs.YtnbaoimjcaeeaaaGreat

/-
  Contracts: codec.GetText, GetBool.
-/
namespace Go.Proofs.YtnbaoimjcaeeaaaGreat
open Go.RowKit

set_option maxRecDepth 100000 in
set_option maxHeartbeats 1000000 in
theorem getText_any (v : Value) (xs : List Int) (w : World) (hv : Has w v xs) (hB : IsB xs) (hl : xs.length ≤ 1099511627776) :
    Calls Tryz.prog 113 #[v] w fun e w' => e = .returned (.tuple #[.string (strOfNums (getTextS xs).1), .int .i64 ((getTextS xs).2 : Nat)]) ∧ Below w.heap.size w w' := by
  have hget := get_cod v xs w hv hB hl
  have hbd := getS_bd xs
  have HT : Hid (getTextS xs = if (getS xs).2 = 0 ∨ (xs.length : Int) - (getS xs).2 < (getS xs).1 then ([], 0) else ((xs.drop (getS xs).2).take (getS xs).1.toNat, (getS xs).2 + (getS xs).1.toNat)) := rfl
  obtain ⟨p, c, rfl, hc, hnone, hcell⟩ := id hv
  clear hnone
  generalize getS xs = g at *
  obtain ⟨u, n⟩ := g
  obtain ⟨h0, h1, h2, h3⟩ := hbd
  simp only at h0 h1 h2 h3 HT hget
  obtain ⟨U, rfl⟩ := Int.eq_ofNat_of_zero_le h0
  have HGt : Hid (Calls Tryz.prog 139 #[.slice p xs.length c] w fun e w' => e = .returned (.tuple #[.int .u64 (U : Int), .int .i64 (n : Nat)]) ∧ Below w.heap.size w w') := hget
  clear hget
  by_cases hn0 : n = 0
  · have HT0 : Hid (getTextS xs = ([], 0)) := by rw [Hid, HT.out, if_pos (Or.inl hn0)]
    clear HT
    subst hn0
    go_enter Tryz.func113, Tryz.ntmps113
    go_wp2_with (go_at_call 139; refine HGt.out.mono ?_; rintro e w1 ⟨rfl, hb1⟩)
    go_ret2
    rw [HT0.out]
    exact ⟨rfl, hb1⟩
  · have hnb : ((n : Int) == 0) = false := by simp; omega
    by_cases hlt : (xs.length : Int) - n < U
    · have HT0 : Hid (getTextS xs = ([], 0)) := by rw [Hid, HT.out, if_pos (Or.inr hlt)]
      clear HT
      go_enter Tryz.func113, Tryz.ntmps113
      go_wp2_with (go_at_call 139; refine HGt.out.mono ?_; rintro e w1 ⟨rfl, hb1⟩)
      go_ret2
      rw [HT0.out]
      exact ⟨rfl, hb1⟩
    · have HT0 : Hid (getTextS xs = ((xs.drop n).take U, n + U)) := by rw [Hid, HT.out, if_neg (by omega)]; rfl
      clear HT
      obtain ⟨b, o, rfl, hbl, _⟩ := hcell (by omega)
      clear hcell
      by_cases hcn : c = n
      · obtain rfl : U = 0 := by omega
        subst hcn
        have CV : Hid (∀ w1, (convert 22 9 (.slice (some ⟨b, o, none⟩) 0 0)).run Tryz.prog w1 = .ok (.string (strOfNums [])) w1) := fun w1 =>
          (Has.empty w1 (some ⟨b, o, none⟩) 0 (fun _ => rfl)).conv (P := Tryz.prog) 22 5 9 Tryz.underlying22 Tryz.underlying5 Tryz.underlying9
        go_enter Tryz.func113, Tryz.ntmps113
        go_wp2_with (go_at_call 139; refine HGt.out.mono ?_; rintro e w1 ⟨rfl, hb1⟩; have cv1 := CV.out w1)
        go_ret2
        rw [HT0.out]
        exact ⟨rfl, hb1⟩
      · have CV : Hid (∀ w1, Below w.heap.size w w1 → (convert 22 9 (.slice (some ⟨b, o + n, none⟩) U (c - n))).run Tryz.prog w1 = .ok (.string (strOfNums ((xs.drop n).take U))) w1) := fun w1 hb =>
          ((hv.below hb (Nat.le_refl _)).cutAt n U (by omega)).conv (P := Tryz.prog) 22 5 9 Tryz.underlying22 Tryz.underlying5 Tryz.underlying9
        go_enter Tryz.func113, Tryz.ntmps113
        go_wp2_with (go_at_call 139; refine HGt.out.mono ?_; rintro e w1 ⟨rfl, hb1⟩; have cv1 := CV.out w1 hb1)
        go_ret2
        rw [HT0.out]
        exact ⟨rfl, hb1⟩

set_option maxRecDepth 100000 in
set_option maxHeartbeats 1000000 in
theorem getBool_any (v : Value) (xs : List Int) (w : World) (hv : Has w v xs) (hB : IsB xs) (hl : xs.length ≤ 1099511627776) :
    Calls Tryz.prog 116 #[v] w fun e w' => e = .returned (.tuple #[.bool (getBoolS xs).1, .int .i64 ((getBoolS xs).2 : Nat)]) ∧ w' = w := by
  have HT : Hid (getBoolS xs = if xs.length = 0 ∨ (xs.getD 0 0 ≠ 84 ∧ xs.getD 0 0 ≠ 70) then (false, 0) else (xs.getD 0 0 == 84, 1)) := rfl
  obtain ⟨p, c, rfl, hc, hnone, hcell⟩ := id hv
  clear hnone
  rcases Nat.eq_zero_or_pos xs.length with hn | hn
  · obtain rfl : xs = [] := List.eq_nil_of_length_eq_zero hn
    go_enter Tryz.func116, Tryz.ntmps116
    go_wp2
    go_ret2
    exact ⟨rfl, rfl⟩
  · obtain ⟨b, o, rfl, hbl, hcl⟩ := hcell hn
    have h1 := hcl 0 hn
    rw [Nat.add_zero] at h1
    clear hcl hcell hB
    have hne : ¬ xs = [] := fun h => by rw [h] at hn; simp at hn
    have hnb : ((xs.length : Int) == 0) = false := by simp; omega
    generalize xs.getD 0 0 = x at *
    by_cases h84 : x = 84
    · have HT0 : Hid (getBoolS xs = (true, 1)) := by rw [Hid, HT.out, if_neg (by omega), h84]; rfl
      clear HT
      subst h84
      go_enter Tryz.func116, Tryz.ntmps116
      go_wp2
      go_ret2
      rw [HT0.out]
      exact ⟨rfl, rfl⟩
    · by_cases h70 : x = 70
      · have HT0 : Hid (getBoolS xs = (false, 1)) := by rw [Hid, HT.out, if_neg (by omega), h70]; rfl
        clear HT
        subst h70
        go_enter Tryz.func116, Tryz.ntmps116
        go_wp2
        go_ret2
        rw [HT0.out]
        exact ⟨rfl, rfl⟩
      · have HT0 : Hid (getBoolS xs = (false, 0)) := by rw [Hid, HT.out, if_pos (by omega)]
        clear HT
        have e1 : (x != 84) = true := by simp; omega
        have e2 : (x != 70) = true := by simp; omega
        go_enter Tryz.func116, Tryz.ntmps116
        go_wp2
        go_ret2
        rw [HT0.out]
        exact ⟨rfl, rfl⟩
end Go.Proofs.YtnbaoimjcaeeaaaGreat
