/-
  Contracts: math/bits.RotateLeft64 by one, back; Zag, PutBool.
-/
import Derived.Test.YtnbaoimjcaeeaaaW4
namespace Go.Proofs.Ytnbaoimjcaeeaaa
open Go.RowKit

def rotR (u : Int) : Int := bits BinOp.or .u64 (IntKind.u64.wrap (u * 9223372036854775808)) (u / 2)
def zagS (u : Int) : Int := wrap64 (rotR u)


set_option maxRecDepth 100000 in
set_option maxHeartbeats 1000000 in
theorem rotR_any (u : Int) (w : World) :
    Calls Try.prog 121 #[.int .u64 u, .int .i64 (-1)] w fun e w' => e = .returned (.int .u64 (rotR u)) ∧ w' = w := by
  have e : IntKind.u64.wrap (-1) = 18446744073709551615 := by decide
  have e2 : bits BinOp.and IntKind.u64 18446744073709551615 63 = 63 := by decide +kernel
  go_enter Try.func121, Try.ntmps121
  go_wp2
  go_ret
  exact ⟨rfl, rfl⟩

set_option maxRecDepth 100000 in
set_option maxHeartbeats 1000000 in
theorem zag_any (u : Int) (w : World) :
    Calls Try.prog 108 #[.int .u64 u] w fun e w' => e = .returned (.int .i64 (zagS u)) ∧ w' = w := by
  go_enter Try.func108, Try.ntmps108
  go_wp2_with fail
  refine same_mono (rotR_any _ _) ?_
  go_wp2
  go_ret
  exact ⟨rfl, rfl⟩

def boolB (b : Bool) : Int := if b then 84 else 70

set_option maxRecDepth 100000 in
set_option maxHeartbeats 1000000 in
theorem putBool_any (v : Value) (xs : List Int) (b : Bool) (w : World) (hv : Has w v xs) (hl : xs.length ≤ 1048576) :
    Calls Try.prog 61 #[v, .bool b] w fun e w' => ∃ v', e = .returned v' ∧ Owns w' w.heap.size 5 v' (xs ++ [boolB b]) ∧ Below w.heap.size w w' := by
  obtain ⟨i0, hi, hz0, hz1, hz2⟩ := info_parts info8c
  cases b
  all_goals
    go_enter Try.func61, Try.ntmps61
    go_wp2_with (first
      | (go_at_call 87; refine (withRoom_any _ xs _ _ hv (by omega) (by omega) (by omega)).mono ?_; rintro e w1 ⟨v1, rfl, ho1, hb1⟩)
      | (at_builtin; refine ap_one _ rfl _ _ 34 rfl w.heap.size 5 i0 Try.underlying34 hi hz0 hz1 hz2 _ _ _ rfl rfl (by exact ho1) (by omega) (by exact hb1.size) ?_; intro v3 w3 ho3 hb3))
    go_ret
    exact ⟨_, rfl, ho3, hb1.trans hb3⟩

end Go.Proofs.Ytnbaoimjcaeeaaa
