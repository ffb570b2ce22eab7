import Derived.WalkKit
import Derived.Lib.BitFns
namespace Go.Proofs.Ytkocomfcjklgcaa
open Go.RowKit
def more (u : Nat) : Nat :=
  if u < 128 then 0 else if u < 16384 then 1 else if u < 2097152 then 2 else if u < 268435456 then 3 else if u < 34359738368 then 4
  else if u < 4398046511104 then 5 else if u < 562949953421312 then 6 else if u < 72057594037927936 then 7 else 8

def g0 (x : Int) (k : Nat) : Int := bits BinOp.and .u8 x (127 / 2 ^ k)
def gs (u x : Int) : Int := bits BinOp.or .u64 (IntKind.u64.wrap (u * 256)) x
end Go.Proofs.Ytkocomfcjklgcaa
