/-
  Contracts: a nil Reader.
-/
import Derived.Test.YtnbaoimjcaeeaabW4
import Derived.Test.YtnbaoimjcaeeaabW4b
namespace Go.Proofs.Ytnbaoimjcaeeaab
open Go.RowKit

theorem zag0 : zagS 0 = 0 := by decide +kernel
end Go.Proofs.Ytnbaoimjcaeeaab
