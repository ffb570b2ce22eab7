import Derived.Test.YtephoegcpjdglaaDs1
import Derived.Lib.SlBytesConst
import Derived.Test.YtephoegcpjdglaaDs0To
namespace Go.Proofs.Ytephoegcpjdglaa
open Go.RowKit Go.Maps
def tA : ByteArray := ⟨#[97]⟩
def lv0 : DM := DM.empty 3
def lv1 : DM := (lv0.create tA).2
def lv2 : DM := (lv1.append tA [120, 121, 122]).2
theorem isB8_dec {l : List Int} (h : l.all (fun z => decide (0 ≤ z) && decide (z < 256)) = true) : isB8 l := fun z hz => by
  have := List.all_eq_true.1 h z hz
  simpa using this
theorem ok0 : lv0.OkN 0 := okN_empty 3 (by decide)
theorem ok1 : lv1.OkN 1 := ok0.create tA
theorem ok2 : lv2.OkN 2 := ok1.append tA (isB8_dec (by decide))
abbrev Tr := ByteArray × Value × List Int
instance : Inhabited Tr := ⟨(ByteArray.empty, undef, [])⟩
section
variable {w w' : World} {r : Nat} {S S' : Nat → Prop} {vl vb : Value} {tl tb : List Tr} {blocks : Nat} {off : Bool} {ops : Nat} {n keep : Int}
end
end Go.Proofs.Ytephoegcpjdglaa
