/-
  From a row's own words to this proof's: the table.
-/
import Derived.Test.YtkjnifipepiahaaDoorH2
import Derived.ProofKit
import Derived.OpenShut
namespace Go.Proofs.YtkjnifipepiahaaDoor
open Go.ChangeShapes Go.WideShapes Go.ChangeAt Go.RowKit

def lowI : List Int := [4, 0, 1, 0, 2, 0, 1, 0, 3, 0, 1, 0, 2, 0, 1, 0]
theorem low_eq : ∀ i : Fin 16, lowI.getD i.val 0 = ((lowT.getD i.val 0 : Nat) : Int) := by decide
theorem tab_of {W : World} (h : ∀ i, i < lowI.length → W.cell? ⟨0, i, none⟩ = some (.int .i64 (lowI.getD i 0))) : Tab W :=
  ⟨World.block_lt_of_cell? W _ (h 0 (by decide)), fun i hi => by rw [h i hi, low_eq ⟨i, hi⟩]⟩
end Go.Proofs.YtkjnifipepiahaaDoor
