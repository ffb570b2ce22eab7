/-
  Contracts: corbelref09.key, value, Good, Reads.
-/
import Derived.Test.YtnbaoimjcaeeaabCmD
namespace Go.Proofs.Ytnbaoimjcaeeaab
open Go.RowKit Go.Lib

end Go.Proofs.Ytnbaoimjcaeeaab
