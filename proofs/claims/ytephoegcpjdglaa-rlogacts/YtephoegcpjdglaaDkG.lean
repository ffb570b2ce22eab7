import Derived.Test.YtephoegcpjdglaaDkN
import Derived.Lib.SliceRun
import Derived.LaidEqlPtr
import Derived.Test.YtephoegcpjdglaaRlTo
namespace Go.Proofs.Ytephoegcpjdglaa
open Go.RowKit Go.Maps

def without (l : List ByteArray) (x : ByteArray) : List ByteArray := l.filter fun y => decide (y ≠ x)
section
variable {w w' : World} {d : Nat} {S : Nat → Prop} {φ : ByteArray → Nat} {σ : ByteArray → Value} {mb : Nat} {vb : Value} {R : RD}
end
end Go.Proofs.Ytephoegcpjdglaa
