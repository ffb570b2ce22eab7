/-
  Contracts: corbelref01.GetText, GetBool, PutText, PutBool.
-/
import Derived.Test.YtnbaoimjcaeeaabRef2
namespace Go.Proofs.Ytnbaoimjcaeeaab
open Go.RowKit
end Go.Proofs.Ytnbaoimjcaeeaab
