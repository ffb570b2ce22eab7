import Derived.Test.YtkfejicgabdflaaDs0To
import Derived.Shelf.SlIter.Nil
import Derived.Shelf.SortM.Plain
import Derived.Shelf.SortM.SortNone
import Derived.Ground.GgzProg
import Derived.Ground.SlgmProg
import Derived.Test.YtkfejicgabdflaaChecked
import Derived.Lib.SlBytesConst
namespace Go.Proofs.Ytkfejicgabdflaa
open Go.RowKit Go.Maps

abbrev Tr := ByteArray × Value × List Int
instance : Inhabited Tr := ⟨(ByteArray.empty, undef, [])⟩
section
variable {w w' : World} {r : Nat} {S S' : Nat → Prop} {vl vb : Value} {tl tb : List Tr} {blocks : Nat} {off : Bool} {ops : Nat} {n keep : Int}
end
end Go.Proofs.Ytkfejicgabdflaa
