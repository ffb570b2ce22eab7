/-
  Contracts: corbelref01's Reader: Num, Int, Text, Bool, Count, End.
-/
import Derived.Test.YtnbaoimjcaeeaaaRef7
namespace Go.Proofs.Ytnbaoimjcaeeaaa
open Go.RowKit

theorem getS_zero (xs : List Int) : (getS xs).2 = 0 → (getS xs).1 = 0 := by
  unfold getS
  split
  · intro _; rfl
  · split
    · intro h; simp at h
    · intro _; rfl
theorem getTextS_zero (xs : List Int) : (getTextS xs).2 = 0 → (getTextS xs).1 = [] := by
  unfold getTextS
  split
  · intro _; rfl
  · intro h; simp only at h; omega
theorem getBoolS_zero (xs : List Int) : (getBoolS xs).2 = 0 → (getBoolS xs).1 = false := by
  unfold getBoolS
  split
  · intro _; rfl
  · intro h; simp at h
end Go.Proofs.Ytnbaoimjcaeeaaa
