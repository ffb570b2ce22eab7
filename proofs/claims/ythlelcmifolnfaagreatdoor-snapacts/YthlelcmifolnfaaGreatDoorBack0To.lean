import Derived.WalkKit
import Derived.Lib.BitFns
import Derived.Test.YthlelcmifolnfaaGreatDoorCrc
import Derived.Laws.BytesArg
namespace Go.Proofs.YthlelcmifolnfaaGreatDoor
open Go.RowKit
def more (u : Nat) : Nat :=
  if u < 128 then 0 else if u < 16384 then 1 else if u < 2097152 then 2 else if u < 268435456 then 3 else if u < 34359738368 then 4
  else if u < 4398046511104 then 5 else if u < 562949953421312 then 6 else if u < 72057594037927936 then 7 else 8

theorem more_le (u : Nat) : more u ≤ 8 := by unfold more; repeat' split
                                             all_goals omega

theorem bitLen_ge (x k : Nat) (h : 2 ^ k ≤ x) (hx : x < 18446744073709551616) : k + 1 ≤ Lib.bitLen x := by
  rw [Lib.bitLen_shift k x h hx]
  have hp : 0 < 2 ^ k := Nat.two_pow_pos k
  have h1 : x / 2 ^ k ≠ 0 := by
    have := (Nat.le_div_iff_mul_le hp (x := 1) (y := x)).2 (by omega)
    omega
  have h2 : x / 2 ^ k < 2 ^ 64 := Nat.lt_of_le_of_lt (Nat.div_le_self _ _) hx
  rw [Lib.bitLen_half _ h1 h2]
  omega

theorem bitLen_bounds (x : Nat) (h0 : 1 ≤ x) (hx : x < 18446744073709551616) : 1 ≤ Lib.bitLen x ∧ Lib.bitLen x ≤ 64 :=
  ⟨bitLen_ge x 0 (by simpa using h0) hx, Lib.bitLen_le x 64 (by omega) hx⟩

theorem or_one (u : Nat) : u ||| 1 = u + (1 - u % 2) := by
  have h := Nat.two_pow_add_eq_or_of_lt (i := 1) (b := 1) (by omega) (u / 2)
  have h2 : u ||| 1 = (2 ^ 1 * (u / 2)) ||| 1 := by
    apply Nat.eq_of_testBit_eq
    intro i
    simp only [Nat.testBit_or]
    cases i with
    | zero => simp
    | succ n => simp [Nat.testBit_succ, show (2 * (u / 2)) / 2 = u / 2 by omega]
  rw [h2, ← h]
  omega

theorem more_of_len (u x : Nat) (hu : u < 18446744073709551616) (hx : x = u ||| 1) : min ((Lib.bitLen x - 1) / 7) 8 = more u := by
  rw [or_one] at hx
  have hx64 : x < 18446744073709551616 := by omega
  have hge := fun k h => bitLen_ge x k h hx64
  have hle := fun k h => Lib.bitLen_le x k h
  unfold more
  split
  · have := hle 7 (by omega) (by omega); omega
  split
  · have := hle 14 (by omega) (by omega); have := hge 7 (by omega); omega
  split
  · have := hle 21 (by omega) (by omega); have := hge 14 (by omega); omega
  split
  · have := hle 28 (by omega) (by omega); have := hge 21 (by omega); omega
  split
  · have := hle 35 (by omega) (by omega); have := hge 28 (by omega); omega
  split
  · have := hle 42 (by omega) (by omega); have := hge 35 (by omega); omega
  split
  · have := hle 49 (by omega) (by omega); have := hge 42 (by omega); omega
  split
  · have := hle 56 (by omega) (by omega); have := hge 49 (by omega); omega
  · have := hge 56 (by omega); omega

theorem more_of_bits (u : Int) (h0 : 0 ≤ u) (h1 : u < 18446744073709551616) :
    min (((Lib.bitLen (bits BinOp.or .u64 u 1).toNat : Int) - 1) / 7) 8 = (more u.toNat : Int) := by
  obtain ⟨n, rfl⟩ := Int.eq_ofNat_of_zero_le h0
  have hn : n < 18446744073709551616 := by omega
  have e : bits BinOp.or .u64 (n : Int) 1 = ((n ||| 1 : Nat) : Int) := bits_or_u64_nat n 1 hn (by omega)
  rw [e]
  have hm := more_of_len n (n ||| 1) hn rfl
  have hb := bitLen_bounds (n ||| 1) (by rw [or_one]; omega) (by rw [or_one]; omega)
  simp only [Int.toNat_natCast]
  rw [← hm]
  omega

theorem or_one_bounds (u : Int) (h0 : 0 ≤ u) (h1 : u < 18446744073709551616) : 1 ≤ bits BinOp.or .u64 u 1 ∧ bits BinOp.or .u64 u 1 < 18446744073709551616 := by
  obtain ⟨n, rfl⟩ := Int.eq_ofNat_of_zero_le h0
  have hn : n < 18446744073709551616 := by omega
  have e : bits BinOp.or .u64 (n : Int) 1 = ((n ||| 1 : Nat) : Int) := bits_or_u64_nat n 1 hn (by omega)
  rw [e, or_one]
  omega

theorem len8tab_at (i : Nat) (h : i < Lib.len8tab.size) : ((Lib.len8tab[i]'h).toNat : Int) = (Lib.bitLen i : Int) := by
  have hi : i < 256 := by rw [Lib.len8tab_size] at h; exact h
  have e := Lib.len8_eq ⟨i, hi⟩
  simp only [Lib.len8, Int.toNat_natCast] at e
  rw [← e, ByteArray.getElem?_lt' _ _ h]
  rfl

def fb (u : Int) (k : Nat) : Int := bits BinOp.or .u8 (bits BinOp.xor .u8 IntKind.u8.max (255 / 2 ^ k)) (u / 2 ^ (8 * k) % 256)
def bt (u : Int) (k i : Nat) : Int := u / 2 ^ (8 * (k - 1 - i)) % 256
def numK (u : Int) (k : Nat) : List Int := fb u k :: (List.range k).map (bt u k)
def numB (u : Int) : List Int := numK u (more u.toNat)

theorem numK_length (u : Int) (k : Nat) : (numK u k).length = k + 1 := by simp [numK]
theorem numB_length (u : Int) : (numB u).length = more u.toNat + 1 := numK_length _ _
theorem numB_le (u : Int) : (numB u).length ≤ 9 := by have := more_le u.toNat; rw [numB_length]; omega

def lead (x : Int) : Nat := 8 - Lib.bitLen (bits BinOp.xor .u8 IntKind.u8.max x).toNat
def g0 (x : Int) (k : Nat) : Int := bits BinOp.and .u8 x (127 / 2 ^ k)
def gs (u x : Int) : Int := bits BinOp.or .u64 (IntKind.u64.wrap (u * 256)) x
def gacc (xs : List Int) (k j : Nat) : Int := ((xs.drop 1).take j).foldl gs (g0 (xs.getD 0 0) k)
def getS (xs : List Int) : Int × Nat :=
  if xs.length ≤ lead (xs.getD 0 0) then (0, 0)
  else if lead (xs.getD 0 0) = more (gacc xs (lead (xs.getD 0 0)) (lead (xs.getD 0 0))).toNat then (gacc xs (lead (xs.getD 0 0)) (lead (xs.getD 0 0)), lead (xs.getD 0 0) + 1)
  else (0, 0)

theorem lead_le (x : Int) : lead x ≤ 8 := by unfold lead; omega
theorem lead_len (x : Int) : (8 : Int) - (Lib.bitLen (bits BinOp.xor .u8 IntKind.u8.max x).toNat : Int) = (lead x : Int) := by
  have h0 := bits_lo_u8 BinOp.xor IntKind.u8.max x
  have h1 := bits_hi_u8 BinOp.xor IntKind.u8.max x
  have := Lib.bitLen_le8' _ h0 h1
  unfold lead
  omega
theorem g0_bd (x : Int) (k : Nat) : 0 ≤ g0 x k ∧ g0 x k ≤ 255 := ⟨bits_lo_u8 _ _ _, bits_hi_u8 _ _ _⟩
theorem gs_bd (u x : Int) : 0 ≤ gs u x ∧ gs u x ≤ 18446744073709551615 := ⟨bits_lo_u64 _ _ _, bits_hi_u64 _ _ _⟩
theorem gacc_bd (xs : List Int) (k j : Nat) : 0 ≤ gacc xs k j ∧ gacc xs k j ≤ 18446744073709551615 := by
  unfold gacc
  rcases List.eq_nil_or_concat ((xs.drop 1).take j) with h | ⟨ys, y, h⟩
  · rw [h]; have := g0_bd (xs.getD 0 0) k; simp only [List.foldl_nil]; omega
  · rw [h]; simp only [List.concat_eq_append, List.foldl_append, List.foldl_cons, List.foldl_nil]; exact gs_bd _ _
theorem gacc_zero (xs : List Int) (k : Nat) : gacc xs k 0 = g0 (xs.getD 0 0) k := by simp [gacc]
theorem gacc_succ (xs : List Int) (k j : Nat) (h : j + 1 < xs.length) : gacc xs k (j + 1) = gs (gacc xs k j) (xs.getD (j + 1) 0) := by
  unfold gacc
  have hj : j < (xs.drop 1).length := by simp; omega
  rw [List.take_succ_eq_append_getElem hj, List.foldl_append]
  simp [List.getElem?_eq_getElem (show j + 1 < xs.length by omega)]
theorem getS_bd (xs : List Int) : 0 ≤ (getS xs).1 ∧ (getS xs).1 ≤ 18446744073709551615 ∧ (getS xs).2 ≤ xs.length ∧ (getS xs).2 ≤ 9 := by
  unfold getS
  have := gacc_bd xs (lead (xs.getD 0 0)) (lead (xs.getD 0 0))
  have := lead_le (xs.getD 0 0)
  split
  · simp
  · split
    · simp only; omega
    · simp
def getTextS (xs : List Int) : List Int × Nat :=
  if (getS xs).2 = 0 ∨ (xs.length : Int) - (getS xs).2 < (getS xs).1 then ([], 0) else ((xs.drop (getS xs).2).take (getS xs).1.toNat, (getS xs).2 + (getS xs).1.toNat)
theorem getTextS_bd (xs : List Int) : (getTextS xs).2 ≤ xs.length ∧ (getTextS xs).1.length ≤ xs.length := by
  unfold getTextS
  have := getS_bd xs
  split
  · simp
  · simp only [List.length_take, List.length_drop]; omega
theorem IsB.cut {xs : List Int} (h : IsB xs) (lo m : Nat) : IsB ((xs.drop lo).take m) := fun x hx => h x (List.mem_of_mem_drop (List.mem_of_mem_take hx))

theorem more_lt (u : Nat) (hu : u < 18446744073709551616) : (more u < 8 → u < 2 ^ (7 * (more u + 1))) ∧ (more u = 8 → 72057594037927936 ≤ u) := by
  unfold more
  repeat' split
  all_goals simp
  all_goals omega

theorem fb_bd (u : Int) (k : Nat) : 0 ≤ fb u k ∧ fb u k ≤ 255 := ⟨bits_lo_u8 _ _ _, bits_hi_u8 _ _ _⟩
theorem numB_isB (u : Int) : IsB (numB u) := by
  refine IsB.cons (fb_bd _ _) fun x hx => ?_
  obtain ⟨i, _, rfl⟩ := List.mem_map.1 hx
  unfold bt
  omega

end Go.Proofs.YthlelcmifolnfaaGreatDoor
