/-
  Plain mathematics: the number that bytes begin with, as the code reckons it, in the walk's own words. No program is named here.
-/
import Derived.Test.YtnbaoimjcaeeaaaNum
import Derived.Test.YtnbaoimjcaeeaaaCrc
namespace Go.Proofs.Ytnbaoimjcaeeaaa
open Go.RowKit

/-- How many bytes follow a first byte. -/
def lead (x : Int) : Nat := 8 - Lib.bitLen (bits BinOp.xor .u8 IntKind.u8.max x).toNat
def g0 (x : Int) (k : Nat) : Int := bits BinOp.and .u8 x (127 / 2 ^ k)
def gs (u x : Int) : Int := bits BinOp.or .u64 (IntKind.u64.wrap (u * 256)) x
def gacc (xs : List Int) (k j : Nat) : Int := ((xs.drop 1).take j).foldl gs (g0 (xs.getD 0 0) k)
/-- The number that bytes begin with, and how many bytes it has: 0, 0: none. -/
def getS (xs : List Int) : Int × Nat :=
  if xs.length ≤ lead (xs.getD 0 0) then (0, 0)
  else if lead (xs.getD 0 0) = more (gacc xs (lead (xs.getD 0 0)) (lead (xs.getD 0 0))).toNat then (gacc xs (lead (xs.getD 0 0)) (lead (xs.getD 0 0)), lead (xs.getD 0 0) + 1)
  else (0, 0)

theorem lead_le (x : Int) : lead x ≤ 8 := by unfold lead; omega
theorem lead_len (x : Int) : (8 : Int) - (Lib.bitLen (bits BinOp.xor .u8 IntKind.u8.max x).toNat : Int) = (lead x : Int) := by
  have h0 := bits_lo_u8 BinOp.xor IntKind.u8.max x
  have h1 := bits_hi_u8 BinOp.xor IntKind.u8.max x
  have := Lib.bitLen_le8' _ h0 h1
  unfold lead
  omega
theorem g0_bd (x : Int) (k : Nat) : 0 ≤ g0 x k ∧ g0 x k ≤ 255 := ⟨bits_lo_u8 _ _ _, bits_hi_u8 _ _ _⟩
theorem gs_bd (u x : Int) : 0 ≤ gs u x ∧ gs u x ≤ 18446744073709551615 := ⟨bits_lo_u64 _ _ _, bits_hi_u64 _ _ _⟩
theorem gacc_bd (xs : List Int) (k j : Nat) : 0 ≤ gacc xs k j ∧ gacc xs k j ≤ 18446744073709551615 := by
  unfold gacc
  rcases List.eq_nil_or_concat ((xs.drop 1).take j) with h | ⟨ys, y, h⟩
  · rw [h]; have := g0_bd (xs.getD 0 0) k; simp only [List.foldl_nil]; omega
  · rw [h]; simp only [List.concat_eq_append, List.foldl_append, List.foldl_cons, List.foldl_nil]; exact gs_bd _ _
theorem gacc_zero (xs : List Int) (k : Nat) : gacc xs k 0 = g0 (xs.getD 0 0) k := by simp [gacc]
theorem gacc_succ (xs : List Int) (k j : Nat) (h : j + 1 < xs.length) : gacc xs k (j + 1) = gs (gacc xs k j) (xs.getD (j + 1) 0) := by
  unfold gacc
  have hj : j < (xs.drop 1).length := by simp; omega
  rw [List.take_succ_eq_append_getElem hj, List.foldl_append]
  simp [List.getElem?_eq_getElem (show j + 1 < xs.length by omega)]
theorem getS_bd (xs : List Int) : 0 ≤ (getS xs).1 ∧ (getS xs).1 ≤ 18446744073709551615 ∧ (getS xs).2 ≤ xs.length ∧ (getS xs).2 ≤ 9 := by
  unfold getS
  have := gacc_bd xs (lead (xs.getD 0 0)) (lead (xs.getD 0 0))
  have := lead_le (xs.getD 0 0)
  split
  · simp
  · split
    · simp only; omega
    · simp
theorem getS_nil : getS [] = (0, 0) := by simp [getS]

/-- The text that bytes begin with; the yes or no. -/
def getTextS (xs : List Int) : List Int × Nat :=
  if (getS xs).2 = 0 ∨ (xs.length : Int) - (getS xs).2 < (getS xs).1 then ([], 0) else ((xs.drop (getS xs).2).take (getS xs).1.toNat, (getS xs).2 + (getS xs).1.toNat)
def getBoolS (xs : List Int) : Bool × Nat :=
  if xs.length = 0 ∨ (xs.getD 0 0 ≠ 84 ∧ xs.getD 0 0 ≠ 70) then (false, 0) else (xs.getD 0 0 == 84, 1)

theorem getTextS_bd (xs : List Int) : (getTextS xs).2 ≤ xs.length ∧ (getTextS xs).1.length ≤ xs.length := by
  unfold getTextS
  have := getS_bd xs
  split
  · simp
  · simp only [List.length_take, List.length_drop]; omega
theorem getBoolS_bd (xs : List Int) : (getBoolS xs).2 ≤ xs.length := by
  unfold getBoolS
  split
  · simp
  · simp only; omega
theorem IsB.cut {xs : List Int} (h : IsB xs) (lo m : Nat) : IsB ((xs.drop lo).take m) := fun x hx => h x (List.mem_of_mem_drop (List.mem_of_mem_take hx))

end Go.Proofs.Ytnbaoimjcaeeaaa
