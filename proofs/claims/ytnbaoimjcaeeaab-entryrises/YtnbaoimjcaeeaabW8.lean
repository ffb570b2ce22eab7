/-
  Contracts: a Reader that is not nil: Num, Int, Text, Bool, Count, End.
-/
import Derived.Test.YtnbaoimjcaeeaabW7
import Derived.Test.YtnbaoimjcaeeaabNoneA
namespace Go.Proofs.Ytnbaoimjcaeeaab
open Go.RowKit

theorem srcS_isB {xs : List Int} (h : IsB xs) (wrong : Bool) : IsB (srcS xs wrong) := by cases wrong <;> simp [srcS, IsB.nil, h]
theorem srcS_length (xs : List Int) (wrong : Bool) : (srcS xs wrong).length ≤ xs.length := by cases wrong <;> simp [srcS]
theorem Rd.src {w : World} {rb L : Nat} {v : Value} {xs : List Int} {wrong : Bool} (h : Rd w rb L v xs wrong) : HasIn w L (if wrong then .slice none 0 0 else v) (srcS xs wrong) := by
  cases wrong
  · exact h.has
  · exact HasIn.nil w L
theorem loseS_isB {xs : List Int} (h : IsB xs) (wrong : Bool) (n : Nat) : IsB (loseS xs wrong n).1 := by
  unfold loseS; split
  · exact IsB.nil
  · exact fun x hx => h x (List.mem_of_mem_drop hx)
theorem loseS_length (xs : List Int) (wrong : Bool) (n : Nat) : (loseS xs wrong n).1.length ≤ xs.length := by
  unfold loseS; split <;> simp

/-- What Count tells of bytes. -/
def countS (m : Int) (ys : List Int) : Int × Nat := if m < 0 ∨ m < (getS ys).1 then (0, 0) else getS ys
theorem countS_bd (m : Int) (ys : List Int) : (countS m ys).2 ≤ ys.length := by
  have := getS_bd ys
  unfold countS; split <;> simp_all
end Go.Proofs.Ytnbaoimjcaeeaab
