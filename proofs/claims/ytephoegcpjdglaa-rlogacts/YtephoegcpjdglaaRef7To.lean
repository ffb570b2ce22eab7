import Derived.Test.YtephoegcpjdglaaW1
import Derived.Test.YtephoegcpjdglaaGet0To
import Derived.BigQuiet
import Derived.WalkSmall
import Derived.WalkKit
import Derived.Laws.BytesArg
namespace Go.Proofs.Ytephoegcpjdglaa
open Go.RowKit
theorem grown_trans {a b c : World} {row : Option Nat} (h : a.grownBy b row) (k : b.grownBy c row) : a.grownBy c row :=
  ⟨k.os.trans h.os, k.tape.trans h.tape, k.output.trans h.output, Nat.le_trans h.size k.size, fun i hi hr => (k.block i (Nat.lt_of_lt_of_le hi h.size) hr).trans (h.block i hi hr)⟩
theorem grown_set (w : World) (rb o : Nat) (v : Value) : w.grownBy (w.setCell ⟨rb, o, none⟩ v) (some rb) :=
  ⟨rfl, rfl, rfl, by simp [World.setCell], fun k _ hr => Below.heap_setCell _ _ _ _ (fun e => hr (congrArg some e))⟩

def Inv (xs : List Int) (wrong : Bool) : Prop := wrong = true → xs = []
end Go.Proofs.Ytephoegcpjdglaa
