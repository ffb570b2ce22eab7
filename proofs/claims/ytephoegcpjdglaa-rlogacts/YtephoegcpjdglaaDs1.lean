import Derived.Test.YtephoegcpjdglaaDs0To
import Derived.Shelf.Lay
import Derived.Test.YtephoegcpjdglaaChecked
namespace Go.Proofs.Ytephoegcpjdglaa
open Go.RowKit Go.Maps

namespace DM
variable {c : Nat} {M : DM}
end DM

section
variable {w0 w w' : World} {d : Nat} {S : Nat → Prop} {M M' : DM} {c : Nat}
end
theorem okN_empty (b : Nat) (hb : b ≤ 16777216) : (DM.empty b).OkN 0 := ⟨DM.inv_empty8 b hb, Nat.le_refl _, by show ((0 : Nat) : Int) ≤ _; omega, by show _ ≤ (0 : Int) ∧ (0 : Int) ≤ _; omega⟩
end Go.Proofs.Ytephoegcpjdglaa
