import Derived.WalkKit
import Derived.Lib.BitFns
import Derived.Test.YtnbaoimjcaeeaaaGreatChecked
import Derived.Test.YtnbaoimjcaeeaaaGreatBaseTo
/-
  Plain mathematics: how many bytes a number has behind its first one ('more'), and the length of a number in bits. No program is named here.
-/
namespace Go.Proofs.YtnbaoimjcaeeaaaGreat
open Go.RowKit

/-- How many bytes a number has behind its first one. -/
def more (u : Nat) : Nat :=
  if u < 128 then 0 else if u < 16384 then 1 else if u < 2097152 then 2 else if u < 268435456 then 3 else if u < 34359738368 then 4
  else if u < 4398046511104 then 5 else if u < 562949953421312 then 6 else if u < 72057594037927936 then 7 else 8

theorem more_le (u : Nat) : more u ≤ 8 := by unfold more; repeat' split
                                             all_goals omega

theorem bitLen_ge (x k : Nat) (h : 2 ^ k ≤ x) (hx : x < 18446744073709551616) : k + 1 ≤ Lib.bitLen x := by
  rw [Lib.bitLen_shift k x h hx]
  have hp : 0 < 2 ^ k := Nat.two_pow_pos k
  have h1 : x / 2 ^ k ≠ 0 := by
    have := (Nat.le_div_iff_mul_le hp (x := 1) (y := x)).2 (by omega)
    omega
  have h2 : x / 2 ^ k < 2 ^ 64 := Nat.lt_of_le_of_lt (Nat.div_le_self _ _) hx
  rw [Lib.bitLen_half _ h1 h2]
  omega

theorem bitLen_bounds (x : Nat) (h0 : 1 ≤ x) (hx : x < 18446744073709551616) : 1 ≤ Lib.bitLen x ∧ Lib.bitLen x ≤ 64 :=
  ⟨bitLen_ge x 0 (by simpa using h0) hx, Lib.bitLen_le x 64 (by omega) hx⟩

theorem or_one (u : Nat) : u ||| 1 = u + (1 - u % 2) := by
  have h := Nat.two_pow_add_eq_or_of_lt (i := 1) (b := 1) (by omega) (u / 2)
  have h2 : u ||| 1 = (2 ^ 1 * (u / 2)) ||| 1 := by
    apply Nat.eq_of_testBit_eq
    intro i
    simp only [Nat.testBit_or]
    cases i with
    | zero => simp
    | succ n => simp [Nat.testBit_succ, show (2 * (u / 2)) / 2 = u / 2 by omega]
  rw [h2, ← h]
  omega

/-- What tailBytes reckons is 'more'. -/
theorem more_of_len (u x : Nat) (hu : u < 18446744073709551616) (hx : x = u ||| 1) : min ((Lib.bitLen x - 1) / 7) 8 = more u := by
  rw [or_one] at hx
  have hx64 : x < 18446744073709551616 := by omega
  have hge := fun k h => bitLen_ge x k h hx64
  have hle := fun k h => Lib.bitLen_le x k h
  unfold more
  split
  · have := hle 7 (by omega) (by omega); omega
  split
  · have := hle 14 (by omega) (by omega); have := hge 7 (by omega); omega
  split
  · have := hle 21 (by omega) (by omega); have := hge 14 (by omega); omega
  split
  · have := hle 28 (by omega) (by omega); have := hge 21 (by omega); omega
  split
  · have := hle 35 (by omega) (by omega); have := hge 28 (by omega); omega
  split
  · have := hle 42 (by omega) (by omega); have := hge 35 (by omega); omega
  split
  · have := hle 49 (by omega) (by omega); have := hge 42 (by omega); omega
  split
  · have := hle 56 (by omega) (by omega); have := hge 49 (by omega); omega
  · have := hge 56 (by omega); omega

/-- The same, in the walk's own words. -/
theorem more_of_bits (u : Int) (h0 : 0 ≤ u) (h1 : u < 18446744073709551616) :
    min (((Lib.bitLen (bits BinOp.or .u64 u 1).toNat : Int) - 1) / 7) 8 = (more u.toNat : Int) := by
  obtain ⟨n, rfl⟩ := Int.eq_ofNat_of_zero_le h0
  have hn : n < 18446744073709551616 := by omega
  have e : bits BinOp.or .u64 (n : Int) 1 = ((n ||| 1 : Nat) : Int) := bits_or_u64_nat n 1 hn (by omega)
  rw [e]
  have hm := more_of_len n (n ||| 1) hn rfl
  have hb := bitLen_bounds (n ||| 1) (by rw [or_one]; omega) (by rw [or_one]; omega)
  simp only [Int.toNat_natCast]
  rw [← hm]
  omega

theorem or_one_bounds (u : Int) (h0 : 0 ≤ u) (h1 : u < 18446744073709551616) : 1 ≤ bits BinOp.or .u64 u 1 ∧ bits BinOp.or .u64 u 1 < 18446744073709551616 := by
  obtain ⟨n, rfl⟩ := Int.eq_ofNat_of_zero_le h0
  have hn : n < 18446744073709551616 := by omega
  have e : bits BinOp.or .u64 (n : Int) 1 = ((n ||| 1 : Nat) : Int) := bits_or_u64_nat n 1 hn (by omega)
  rw [e, or_one]
  omega

/-- The table's byte. -/
theorem len8tab_at (i : Nat) (h : i < Lib.len8tab.size) : ((Lib.len8tab[i]'h).toNat : Int) = (Lib.bitLen i : Int) := by
  have hi : i < 256 := by rw [Lib.len8tab_size] at h; exact h
  have e := Lib.len8_eq ⟨i, hi⟩
  simp only [Lib.len8, Int.toNat_natCast] at e
  rw [← e, ByteArray.getElem?_lt' _ _ h]
  rfl

/-- A number's first byte, of k bytes behind it; its byte number i behind the first; all its bytes: in the walk's own words. -/
def fb (u : Int) (k : Nat) : Int := bits BinOp.or .u8 (bits BinOp.xor .u8 IntKind.u8.max (255 / 2 ^ k)) (u / 2 ^ (8 * k) % 256)
def bt (u : Int) (k i : Nat) : Int := u / 2 ^ (8 * (k - 1 - i)) % 256
def numK (u : Int) (k : Nat) : List Int := fb u k :: (List.range k).map (bt u k)
def numB (u : Int) : List Int := numK u (more u.toNat)

theorem numK_length (u : Int) (k : Nat) : (numK u k).length = k + 1 := by simp [numK]
theorem numB_length (u : Int) : (numB u).length = more u.toNat + 1 := numK_length _ _
theorem numB_le (u : Int) : (numB u).length ≤ 9 := by have := more_le u.toNat; rw [numB_length]; omega

end Go.Proofs.YtnbaoimjcaeeaaaGreat

/-
  Contracts: math/bits.Len64, codec.tailBytes, withRoom, appendNumber, Put.
-/
namespace Go.Proofs.YtnbaoimjcaeeaaaGreat
open Go.RowKit

theorem info8c : (Tryz.prog.info? 5).map (fun i => (i.zero, i.size, i.bytes)) = some (some (.int .u8 0), 1, 1) := by kernel_rfl

theorem ret_int {k : IntKind} {a b : Int} (h : a = b) : Ending.returned (.int k a) = .returned (.int k b) := by rw [h]

theorem len_way (u j : Int) (n : Nat) (hj : j.toNat < Lib.len8tab.size) (hn : n ≤ 56) (hx : Lib.bitLen u.toNat = n + Lib.bitLen j.toNat) :
    wrap64 ((n : Int) + wrap64 ((Lib.len8tab[j.toNat]'hj).toNat : Int)) = (Lib.bitLen u.toNat : Int) := by
  have hi : j.toNat < 256 := by rw [Lib.len8tab_size] at hj; exact hj
  have hb := Lib.bitLen_le8 ⟨j.toNat, hi⟩
  simp only at hb
  rw [len8tab_at _ hj, hx, IntWalk.wrap64_in (Lib.bitLen j.toNat : Int) ⟨by omega, by omega⟩, IntWalk.wrap64_in _ ⟨by omega, by omega⟩]
  omega
theorem len_way0 (u : Int) (hj : u.toNat < Lib.len8tab.size) :
    wrap64 (wrap64 ((Lib.len8tab[u.toNat]'hj).toNat : Int)) = (Lib.bitLen u.toNat : Int) := by
  have := len_way u u 0 hj (by omega) (by omega)
  rw [← this]
  congr 1
  simp

set_option maxRecDepth 100000 in
set_option maxHeartbeats 1000000 in
set_option maxRecDepth 10000 in
theorem len64_any (u : Int) (w : World) (h0 : 0 ≤ u) (h1 : u < 18446744073709551616) :
    Calls Tryz.prog 145 #[.int .u64 u] w fun e w' => e = .returned (.int .i64 (Lib.bitLen u.toNat)) ∧ w' = w := by
  have hsz := Lib.len8tab_size
  go_enter Tryz.func145, Tryz.ntmps145
  go_wp2
  · go_ret
    refine ⟨ret_int (len_way u (u / 4294967296 / 65536 / 256) 56 _ (by omega) ?_), rfl⟩
    rw [show (u / 4294967296 / 65536 / 256).toNat = u.toNat / 72057594037927936 by omega]; exact Lib.bitLen_shift56 u.toNat (by omega) (by omega)
  · go_ret
    refine ⟨ret_int (len_way u (u / 4294967296 / 65536) 48 _ (by omega) ?_), rfl⟩
    rw [show (u / 4294967296 / 65536).toNat = u.toNat / 281474976710656 by omega]; exact Lib.bitLen_shift48 u.toNat (by omega) (by omega)
  · go_ret
    refine ⟨ret_int (len_way u (u / 4294967296 / 256) 40 _ (by omega) ?_), rfl⟩
    rw [show (u / 4294967296 / 256).toNat = u.toNat / 1099511627776 by omega]; exact Lib.bitLen_shift40 u.toNat (by omega) (by omega)
  · go_ret
    refine ⟨ret_int (len_way u (u / 4294967296) 32 _ (by omega) ?_), rfl⟩
    rw [show (u / 4294967296).toNat = u.toNat / 4294967296 by omega]; exact Lib.bitLen_shift32 u.toNat (by omega) (by omega)
  · go_ret
    refine ⟨ret_int (len_way u (u / 65536 / 256) 24 _ (by omega) ?_), rfl⟩
    rw [show (u / 65536 / 256).toNat = u.toNat / 16777216 by omega]; exact Lib.bitLen_shift24 u.toNat (by omega) (by omega)
  · go_ret
    refine ⟨ret_int (len_way u (u / 65536) 16 _ (by omega) ?_), rfl⟩
    rw [show (u / 65536).toNat = u.toNat / 65536 by omega]; exact Lib.bitLen_shift16 u.toNat (by omega) (by omega)
  · go_ret
    refine ⟨ret_int (len_way u (u / 256) 8 _ (by omega) ?_), rfl⟩
    rw [show (u / 256).toNat = u.toNat / 256 by omega]; exact Lib.bitLen_shift8 u.toNat (by omega) (by omega)
  · go_ret
    exact ⟨ret_int (len_way0 u _), rfl⟩

set_option maxRecDepth 100000 in
set_option maxHeartbeats 1000000 in
theorem tail_any (u : Int) (w : World) (h0 : 0 ≤ u) (h1 : u < 18446744073709551616) :
    Calls Tryz.prog 142 #[.int .u64 u] w fun e w' => e = .returned (.int .i64 (more u.toNat : Nat)) ∧ w' = w := by
  have hb := or_one_bounds u h0 h1
  have hbl := bitLen_bounds (bits BinOp.or .u64 u 1).toNat (by omega) (by omega)
  have HM : Hid (min (((Lib.bitLen (bits BinOp.or .u64 u 1).toNat : Int) - 1) / 7) 8 = (more u.toNat : Int)) := more_of_bits u h0 h1
  go_enter Tryz.func142, Tryz.ntmps142
  go_wp2_with (go_at_call 145; refine (len64_any _ _ (by omega) (by omega)).mono ?_; rintro e w' ⟨rfl, rfl⟩)
  all_goals
    go_ret
    refine ⟨ret_int ?_, rfl⟩
    have := HM.out
    omega

set_option maxRecDepth 100000 in
set_option maxHeartbeats 1000000 in
theorem withRoom_any (v : Value) (xs : List Int) (m : Int) (w : World) (hv : Has w v xs) (hl : xs.length ≤ 1099511627776) (hm0 : 0 ≤ m) (hm1 : m ≤ 1099511627776) :
    Calls Tryz.prog 85 #[v, .int .i64 m] w fun e w' => ∃ v', e = .returned v' ∧ Owns w' w.heap.size 5 v' xs ∧ Below w.heap.size w w' := by
  obtain ⟨i0, hi, hz0, hz1, hz2⟩ := info_parts info8c
  obtain ⟨p, c, rfl, hc, hnone, hcell⟩ := id hv
  obtain ⟨M, rfl⟩ := Int.eq_ofNat_of_zero_le hm0
  clear hnone hcell
  go_enter Tryz.func85, Tryz.ntmps85
  go_wp2_with (first
    | (at_make; refine wpList_make_own _ rfl _ _ 22 rfl w.heap.size 5 i0 (.int .u8 0) 1 Tryz.underlying22 hi hz0 hz1 _ _ _ (xs.length + M) rfl rfl (by omega) (by rw [hz2]; omega) (by unfold maxLen; omega) (Nat.le_refl _) ?_; intro w0 hown0 hgrow0)
    | (at_builtin; refine ap_slice _ rfl _ _ 22 rfl w.heap.size 5 i0 Tryz.underlying22 hi hz0 hz1 hz2 _ [] xs rfl (by exact hv.below ((Below.refl w.heap.size w).grown hgrow0 (Nat.le_refl _) (fun k h => by cases h)) (Nat.le_refl _)) (by exact hown0) (by simp) hl (by exact hgrow0.size) ?_; intro v1 w1 hown1 hbel1))
  go_ret
  exact ⟨_, rfl, by simpa using hown1, ((Below.refl w.heap.size w).grown hgrow0 (Nat.le_refl _) (fun k h => by cases h)).trans hbel1⟩
end Go.Proofs.YtnbaoimjcaeeaaaGreat
