import Derived.Test.YtephoegcpjdglaaRf1
import Derived.Deep.RegionLaw
import Derived.Test.YtephoegcpjdglaaOnceTo
import Derived.Deep.DeepCutAuto
namespace Go.Proofs.Ytephoegcpjdglaa
open Go.RowKit Go.Maps

theorem row_none9 (w W : World) (e : TypeId) (size : Nat) (h : w.heap.size ≤ W.heap.size) : (W.alloc (.cells #[] e)).ownsRow w.heap.size e size (.slice (some ⟨W.heap.size, 0, none⟩) 0 0) 0 [] := ⟨by simp, .inr ⟨W.heap.size, 0, #[], rfl, h, heap_alloc_new W _, Nat.le_refl _, Nat.zero_le _, by simp, by simp⟩⟩
section
variable {w w' : World} {r : Nat} {S : Nat → Prop} {vl vb : Value} {tl tb : List Tr} {blocks : Nat} {off : Bool} {ops : Nat} {n keep : Int}
end
end Go.Proofs.Ytephoegcpjdglaa
