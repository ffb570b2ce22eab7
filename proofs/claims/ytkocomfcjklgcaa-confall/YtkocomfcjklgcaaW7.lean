import Derived.Test.YtkocomfcjklgcaaChecked
import Derived.Test.YtkocomfcjklgcaaBase
import Derived.Test.YtkocomfcjklgcaaGet0To
import Derived.BigQuiet
import Derived.WalkSmall
import Derived.WalkKit
namespace Go.Proofs.Ytkocomfcjklgcaa
open Go.RowKit

theorem grown_set (w : World) (rb o : Nat) (v : Value) : w.grownBy (w.setCell ⟨rb, o, none⟩ v) (some rb) :=
  ⟨rfl, rfl, rfl, by simp [World.setCell], fun k _ hr => Below.heap_setCell _ _ _ _ (fun e => hr (congrArg some e))⟩

end Go.Proofs.Ytkocomfcjklgcaa
