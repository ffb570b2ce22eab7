/-
  Contracts: corbelref01.more, Put, Get, Zig, Zag.
-/
import Derived.Test.YtnbaoimjcaeeaabW4b
import Derived.Test.YtnbaoimjcaeeaabW5
import Derived.Test.YtnbaoimjcaeeaabBack0
namespace Go.Proofs.Ytnbaoimjcaeeaab
open Go.RowKit

theorem more_low (u : Nat) (j : Nat) (h : j < more u) : 2 ^ (7 * (j + 1)) ≤ u := by
  have h1 : more u = 0 ∨ 2 ^ (7 * more u) ≤ u := by
    unfold more
    repeat' split
    all_goals simp
    all_goals omega
  rcases h1 with h1 | h1
  · omega
  · exact Nat.le_trans (Nat.pow_le_pow_right (by decide) (by omega)) h1
theorem pow_small : ∀ j : Fin 8, (2 : Int) ^ (7 * (j.val + 1)) % 18446744073709551616 = 2 ^ (7 * (j.val + 1)) := by decide +kernel

def onesT : Nat → Int
  | 0 => 0
  | j + 1 => bits BinOp.or .u8 (onesT j) (128 / 2 ^ j)
theorem ones_eq : ∀ k : Fin 9, onesT k.val = bits BinOp.xor .u8 IntKind.u8.max (255 / 2 ^ k.val) := by decide +kernel
theorem ones_bd : ∀ k : Nat, 0 ≤ onesT k ∧ onesT k ≤ 255
  | 0 => by simp [onesT]
  | _ + 1 => ⟨bits_lo_u8 _ _ _, bits_hi_u8 _ _ _⟩
theorem fb_ones (u : Int) (k : Nat) (hk : k ≤ 8) : bits BinOp.or .u8 (onesT k) (u / 2 ^ (8 * k) % 256) = fb u k := by
  have := ones_eq ⟨k, by omega⟩
  simp only at this
  rw [this]
  rfl
theorem fb_eight (u : Int) (h0 : 0 ≤ u) (h1 : u < 18446744073709551616) : onesT 8 = fb u 8 := by
  unfold fb
  rw [show u / 2 ^ (8 * 8) % 256 = 0 by omega]
  decide +kernel

theorem range_step2 (xs : List Int) (a : Int) (f : Nat → Int) (j : Nat) : (xs ++ a :: (List.range j).map f) ++ [f j] = xs ++ a :: (List.range (j + 1)).map f := by
  simp [List.range_succ]
end Go.Proofs.Ytnbaoimjcaeeaab
