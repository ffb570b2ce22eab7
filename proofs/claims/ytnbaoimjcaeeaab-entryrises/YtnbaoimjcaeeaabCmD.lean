/-
  Contracts: command.Reads, Changes; what lives and great of the statements tell.
-/
import Derived.Test.YtnbaoimjcaeeaabCmC
namespace Go.Proofs.Ytnbaoimjcaeeaab
open Go.RowKit Go.Lib
end Go.Proofs.Ytnbaoimjcaeeaab
