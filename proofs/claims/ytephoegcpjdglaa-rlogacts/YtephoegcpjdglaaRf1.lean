import Derived.Test.YtephoegcpjdglaaDs0To
import Derived.Shelf.Lay
import Derived.Test.YtephoegcpjdglaaChecked
import Derived.Lib.SlBytesConst
namespace Go.Proofs.Ytephoegcpjdglaa
open Go.RowKit Go.Maps

abbrev Tr := ByteArray × Value × List Int
instance : Inhabited Tr := ⟨(ByteArray.empty, undef, [])⟩
section
variable {w w' : World} {r : Nat} {S S' : Nat → Prop} {vl vb : Value} {tl tb : List Tr} {blocks : Nat} {off : Bool} {ops : Nat} {n keep : Int}
end
end Go.Proofs.Ytephoegcpjdglaa
