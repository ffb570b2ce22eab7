import Derived.Test.YtephoegcpjdglaaDs0To
import Derived.Shelf.Lay
import Derived.Test.YtephoegcpjdglaaChecked
namespace Go.Proofs.Ytephoegcpjdglaa
open Go.RowKit Go.Maps

structure DM.OkN (c : Nat) (M : DM) : Prop where
  inv : M.Inv
  ops : M.ops ≤ c
  n : (M.n : Int) ≤ 9223372036854775807
  keep : -9223372036854775808 ≤ M.keep ∧ M.keep ≤ 9223372036854775807
namespace DM
variable {c : Nat} {M : DM}
end DM

section
variable {w0 w w' : World} {d : Nat} {S : Nat → Prop} {M M' : DM} {c : Nat}
end
theorem okN_empty (b : Nat) (hb : b ≤ 16777216) : (DM.empty b).OkN 0 := ⟨DM.inv_empty8 b hb, Nat.le_refl _, by show ((0 : Nat) : Int) ≤ _; omega, by show _ ≤ (0 : Int) ∧ (0 : Int) ≤ _; omega⟩
end Go.Proofs.Ytephoegcpjdglaa
