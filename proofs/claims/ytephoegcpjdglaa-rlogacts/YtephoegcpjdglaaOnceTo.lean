import Derived.WalkKit
import Derived.ProofKit
import Derived.Lib.BitFns
import Derived.Lib.AppendStr
import Derived.Laws.AppendOwnNone
import Derived.Laws.BytesArg
namespace Go.Proofs.Ytephoegcpjdglaa
open Go.RowKit
theorem same_mono {P : Program} {f : FuncId} {args : Array Value} {w : World} {v : Value} {Q : Ending → World → Prop} (h : Calls P f args w fun e w' => e = .returned v ∧ w' = w) (hQ : Q (.returned v) w) : Calls P f args w Q :=
  h.mono fun e w' h => by obtain ⟨rfl, rfl⟩ := h; exact hQ

end Go.Proofs.Ytephoegcpjdglaa

namespace Go.Proofs.Ytephoegcpjdglaa
structure Wrap9 (G : Prop) : Prop where
  out : G
theorem once_proved9 {G P : Prop} (proof : G) (main : Wrap9 G → P) : P := main ⟨proof⟩
end Go.Proofs.Ytephoegcpjdglaa
