import Derived.Test.YtephoegcpjdglaaDkM
import Derived.Test.YtephoegcpjdglaaDkBTo
import Derived.Test.YtephoegcpjdglaaChecked
import Derived.Sort.KeysCollected
import Derived.Maps.Ext
namespace Go.Proofs.Ytephoegcpjdglaa
open Go.RowKit Go.Maps Go.WideMaps

def upd {α : Type} (f : ByteArray → α) (x : ByteArray) (v : α) : ByteArray → α := fun y => if y = x then v else f y
structure RD where
  names : List ByteArray
  bt : ByteArray → List Int
  su : ByteArray → Nat
  wr : List (ByteArray × Nat)
  mn : Nat
  pending : Int
  blocks : Int
  used : Int
  on : Bool
  ops : Int
  armed : Int
  keep : Int
section
variable {w w' : World} {d : Nat} {S S' : Nat → Prop} {φ : ByteArray → Nat} {σ : ByteArray → Value} {mb : Nat} {vb : Value} {R : RD}
end
end Go.Proofs.Ytephoegcpjdglaa
