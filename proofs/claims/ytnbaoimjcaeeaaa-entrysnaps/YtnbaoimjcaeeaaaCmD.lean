/-
  Contracts: command.Reads, Changes; what lives and great of the statements tell.
-/
import Derived.Test.YtnbaoimjcaeeaaaCmC
namespace Go.Proofs.Ytnbaoimjcaeeaaa
open Go.RowKit Go.Lib
end Go.Proofs.Ytnbaoimjcaeeaaa
