import Derived.Test.YtkfejicgabdflaaDkN
import Derived.Lib.SliceRun
import Derived.LaidEqlPtr
import Derived.Deep.Quiet
import Derived.OrdersIn
import Derived.RangeFuncCalls
import Derived.BigQuiet
import Derived.Deep.QuietTactic
namespace Go.Proofs.Ytkfejicgabdflaa
open Go.RowKit Go.Maps

def without (l : List ByteArray) (x : ByteArray) : List ByteArray := l.filter fun y => decide (y ≠ x)
section
variable {w w' : World} {d : Nat} {S : Nat → Prop} {φ : ByteArray → Nat} {σ : ByteArray → Value} {mb : Nat} {vb : Value} {R : RD}
end
end Go.Proofs.Ytkfejicgabdflaa
