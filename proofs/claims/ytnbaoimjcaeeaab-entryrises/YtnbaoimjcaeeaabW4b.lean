/-
  Contracts: math/bits.RotateLeft64 by one, back; Zag, PutBool.
-/
import Derived.Test.YtnbaoimjcaeeaabW4
namespace Go.Proofs.Ytnbaoimjcaeeaab
open Go.RowKit

def rotR (u : Int) : Int := bits BinOp.or .u64 (IntKind.u64.wrap (u * 9223372036854775808)) (u / 2)
def zagS (u : Int) : Int := wrap64 (rotR u)


set_option maxRecDepth 100000 in
set_option maxHeartbeats 1000000 in
theorem rotR_any (u : Int) (w : World) :
    Calls Try.prog 45 #[.int .u64 u, .int .i64 (-1)] w fun e w' => e = .returned (.int .u64 (rotR u)) ∧ w' = w := by
  have e : IntKind.u64.wrap (-1) = 18446744073709551615 := by decide
  have e2 : bits BinOp.and IntKind.u64 18446744073709551615 63 = 63 := by decide +kernel
  go_enter Try.func45, Try.ntmps45
  go_wp2
  go_ret
  exact ⟨rfl, rfl⟩

def boolB (b : Bool) : Int := if b then 84 else 70

end Go.Proofs.Ytnbaoimjcaeeaab
