/-
  Contracts: codec.GetText, GetBool.
-/
import Derived.Test.YtnbaoimjcaeeaabW5
namespace Go.Proofs.Ytnbaoimjcaeeaab
open Go.RowKit
end Go.Proofs.Ytnbaoimjcaeeaab
