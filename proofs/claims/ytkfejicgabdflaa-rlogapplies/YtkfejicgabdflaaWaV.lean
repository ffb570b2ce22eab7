import Derived.Test.YtkfejicgabdflaaHRowETo
import Derived.Test.YtkfejicgabdflaaEnQTo
import Derived.Test.YtkfejicgabdflaaW1
import Derived.WalkKit
import Derived.Lib.EndianBits
import Derived.BigQuiet
import Derived.WalkSmall
import Derived.Deep.RegionLaw
namespace Go.Proofs.Ytkfejicgabdflaa
open Go.RowKit

structure RecV where
  k : Int
  e : EntV
  h : Hard10
  i : Int
  t : Int
end Go.Proofs.Ytkfejicgabdflaa
