/-
  Contracts: math/bits.Len8, LeadingZeros8, codec.Get.
-/
import Derived.Test.YtnbaoimjcaeeaabW1
import Derived.Test.YtnbaoimjcaeeaabGet0
import Derived.BigQuiet
import Derived.WalkSmall
namespace Go.Proofs.Ytnbaoimjcaeeaab
open Go.RowKit
end Go.Proofs.Ytnbaoimjcaeeaab
