import Derived.Test.YtojfihfdnchkeaaGreatDoorCrc
import Derived.Lib.EndianBits
namespace Go.Proofs.YtojfihfdnchkeaaGreatDoor
open Go.RowKit

def lowT (xs : List Int) : Nat → Int
  | 0 => 0
  | j + 1 => bits BinOp.or .u32 (lowT xs j) (xs.getD j 0 * 2 ^ (8 * j) % 4294967296)
def lowS (xs : List Int) : Int := lowT xs xs.length

theorem lowT_bd (xs : List Int) (j : Nat) : 0 ≤ lowT xs j ∧ lowT xs j ≤ 4294967295 := by
  cases j with
  | zero => simp [lowT]
  | succ j => exact ⟨bits_lo_u32 _ _ _, bits_hi_u32 _ _ _⟩

def cntS (xs : List Int) : Nat := (lowS ((xs.drop 1).take 3)).toNat
def unframeS (xs : List Int) : List Int × Int × Int :=
  if xs.length = 0 then ([], 0, 10)
  else if xs.getD 0 0 ≠ 197 then ([], 0, 8)
  else if xs.length < 4 then ([], 0, 10)
  else if 1048576 < cntS xs then ([], 0, 6)
  else if xs.length < cntS xs + 8 then ([], 0, 10)
  else if sumS (xs.take (4 + cntS xs)) ≠ lowS ((xs.drop (4 + cntS xs)).take 4) then ([], 0, 8)
  else ((xs.drop 4).take (cntS xs), (cntS xs : Int) + 8, 0)

end Go.Proofs.YtojfihfdnchkeaaGreatDoor
