/-
  Contracts: corbelref01.Zig, Zag, Get.
-/
import Derived.Test.YtnbaoimjcaeeaaaRef1
namespace Go.Proofs.Ytnbaoimjcaeeaaa
open Go.RowKit

theorem or_comm64 (a b : Int) : bits BinOp.or .u64 a b = bits BinOp.or .u64 b a := by
  unfold bits
  simp only [BitVec.or_comm]

set_option maxRecDepth 100000 in
set_option maxHeartbeats 1000000 in
theorem rzig_any (n : Int) (w : World) :
    Calls Try.prog 78 #[.int .i64 n] w fun e w' => e = .returned (.int .u64 (zigS n)) ∧ w' = w := by
  go_enter Try.func78, Try.ntmps78
  go_wp2
  go_ret
  exact ⟨rfl, rfl⟩

/-- The ones ahead of a first byte, one after the other. -/
theorem lead_bit : ∀ x : Fin 256, ∀ j : Fin 8, j.val ≤ lead x.val → (bits BinOp.and .u8 ((x.val : Int) / 2 ^ (7 - j.val)) 1 == 1) = decide (j.val < lead x.val) := by decide +kernel
theorem g0_seven : ∀ x : Fin 256, ∀ k : Fin 9, 7 ≤ k.val → g0 x.val k.val = 0 := by decide +kernel
end Go.Proofs.Ytnbaoimjcaeeaaa
