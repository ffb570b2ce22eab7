import Derived.Test.YtephoegcpjdglaaHRowETo
import Derived.Test.YtephoegcpjdglaaEnQTo
import Derived.Test.YtephoegcpjdglaaW1
import Derived.WalkKit
import Derived.Lib.EndianBits
import Derived.BigQuiet
import Derived.WalkSmall
import Derived.Deep.RegionLaw
namespace Go.Proofs.Ytephoegcpjdglaa
open Go.RowKit

structure RecV where
  k : Int
  e : EntV
  h : Hard10
  i : Int
  t : Int
end Go.Proofs.Ytephoegcpjdglaa
