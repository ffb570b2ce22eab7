import Derived.Test.YtephoegcpjdglaaDkG
import Derived.Deep.RegionWith
import Derived.Lib.BitFns
import Derived.BigQuiet
import Derived.WalkSmall
namespace Go.Proofs.Ytephoegcpjdglaa
open Go.RowKit Go.Maps
structure Halt8 (p : Prop) : Prop where
  out : p
section
variable {w w' w'' : World} {d : Nat} {S : Nat → Prop} {φ : ByteArray → Nat} {σ : ByteArray → Value} {mb : Nat} {vb : Value} {R : RD} {M : DM}
end
theorem equal_slice8 {P : Program} (d : Nat) (t e : TypeId) (a : Addr) (n c : Nat) (W : World) (h : P.underlying t = some (.slice e)) : (Op.equalIn (d + 1) t (.slice (some a) n c) (.slice none 0 0)).run P W = .ok false W := by
  simp [Op.equalIn, run_underlying h]
theorem equal_slice9 {P : Program} (d : Nat) (t e : TypeId) (W : World) (h : P.underlying t = some (.slice e)) : (Op.equalIn (d + 1) t (.slice none 0 0) (.slice none 0 0)).run P W = .ok true W := by
  simp [Op.equalIn, run_underlying h]
section
variable {w w' : World} {d : Nat} {S : Nat → Prop} {φ : ByteArray → Nat} {σ : ByteArray → Value} {mb : Nat} {vb : Value} {R : RD} {M : DM}
end

end Go.Proofs.Ytephoegcpjdglaa

namespace Go.Proofs.Ytephoegcpjdglaa
open Go.RowKit
theorem below_drewN8 {B : Nat} {a w : World} (h : Below B a w) (m : Nat) : Below B a (w.drewN m) := ⟨h.os, h.tape, h.output, h.size, h.block⟩
end Go.Proofs.Ytephoegcpjdglaa
