import Derived.Test.YthlelcmifolnfaaGreatDoorCrc
import Derived.Lib.EndianBits
namespace Go.Proofs.YthlelcmifolnfaaGreatDoor
open Go.RowKit

def lowT (xs : List Int) : Nat → Int
  | 0 => 0
  | j + 1 => bits BinOp.or .u32 (lowT xs j) (xs.getD j 0 * 2 ^ (8 * j) % 4294967296)
def lowS (xs : List Int) : Int := lowT xs xs.length

theorem lowT_bd (xs : List Int) (j : Nat) : 0 ≤ lowT xs j ∧ lowT xs j ≤ 4294967295 := by
  cases j with
  | zero => simp [lowT]
  | succ j => exact ⟨bits_lo_u32 _ _ _, bits_hi_u32 _ _ _⟩

theorem or_low (i : Nat) (x y : Int) (hx0 : 0 ≤ x) (hx1 : x < 2 ^ i) (hy0 : 0 ≤ y) (hy : y % 2 ^ i = 0) (hi : i ≤ 32) (hy1 : y < 4294967296) : bits BinOp.or .u32 x y = x + y := by
  have hp : (2 : Int) ^ i ≤ 2 ^ 32 := by exact_mod_cast Nat.pow_le_pow_right (n := 2) (by decide) hi
  exact bits_join_low .u32 32 (by decide) (fun n h0 h1 => by rw [IntKind.wrap_u32]; omega) i x y hx0 hx1 (by omega) hy0 hy (by omega)

theorem lowT1 (xs : List Int) (h : IsB xs) : lowT xs 1 = xs.getD 0 0 := by
  have h0 := h.getD 0
  show bits BinOp.or .u32 0 (xs.getD 0 0 * 2 ^ 0 % 4294967296) = _
  rw [or_low 0 _ _ (by omega) (by omega) (by omega) (by omega) (by omega) (by omega)]
  omega
theorem lowT2 (xs : List Int) (h : IsB xs) : lowT xs 2 = xs.getD 0 0 + xs.getD 1 0 * 256 := by
  have h0 := h.getD 0
  have h1 := h.getD 1
  show bits BinOp.or .u32 (lowT xs 1) (xs.getD 1 0 * 2 ^ 8 % 4294967296) = _
  rw [lowT1 xs h, or_low 8 _ _ (by omega) (by omega) (by omega) (by omega) (by omega) (by omega)]
  omega
theorem lowT3 (xs : List Int) (h : IsB xs) : lowT xs 3 = xs.getD 0 0 + xs.getD 1 0 * 256 + xs.getD 2 0 * 65536 := by
  have h0 := h.getD 0
  have h1 := h.getD 1
  have h2 := h.getD 2
  show bits BinOp.or .u32 (lowT xs 2) (xs.getD 2 0 * 2 ^ 16 % 4294967296) = _
  rw [lowT2 xs h, or_low 16 _ _ (by omega) (by omega) (by omega) (by omega) (by omega) (by omega)]
  omega
theorem lowT4 (xs : List Int) (h : IsB xs) : lowT xs 4 = xs.getD 0 0 + xs.getD 1 0 * 256 + xs.getD 2 0 * 65536 + xs.getD 3 0 * 16777216 := by
  have h0 := h.getD 0
  have h1 := h.getD 1
  have h2 := h.getD 2
  have h3 := h.getD 3
  show bits BinOp.or .u32 (lowT xs 3) (xs.getD 3 0 * 2 ^ 24 % 4294967296) = _
  rw [lowT3 xs h, or_low 24 _ _ (by omega) (by omega) (by omega) (by omega) (by omega) (by omega)]
  omega

def cntS (xs : List Int) : Nat := (lowS ((xs.drop 1).take 3)).toNat
def unframeS (xs : List Int) : List Int × Int × Int :=
  if xs.length = 0 then ([], 0, 10)
  else if xs.getD 0 0 ≠ 197 then ([], 0, 8)
  else if xs.length < 4 then ([], 0, 10)
  else if 1048576 < cntS xs then ([], 0, 6)
  else if xs.length < cntS xs + 8 then ([], 0, 10)
  else if sumS (xs.take (4 + cntS xs)) ≠ lowS ((xs.drop (4 + cntS xs)).take 4) then ([], 0, 8)
  else ((xs.drop 4).take (cntS xs), (cntS xs : Int) + 8, 0)

end Go.Proofs.YthlelcmifolnfaaGreatDoor
