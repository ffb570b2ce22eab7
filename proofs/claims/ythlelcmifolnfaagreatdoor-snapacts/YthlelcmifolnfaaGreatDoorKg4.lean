import Derived.Deep.DeepHandedRow
import Derived.Lib.LaidTab
import Derived.Test.YthlelcmifolnfaaGreatDoorKg1
namespace Go.Proofs.YthlelcmifolnfaaGreatDoor
open Go.ChangeShapes Go.WideShapes Go.ChangeAt Go.RowKit

abbrev synS12 : ByteArray := { data := #[105, 110, 118, 97, 108, 105, 100, 32, 115, 121, 110, 116, 97, 120] }
abbrev rngS12 : ByteArray := { data := #[118, 97, 108, 117, 101, 32, 111, 117, 116, 32, 111, 102, 32, 114, 97, 110, 103, 101] }
def vals12 : DataW Unit → List Value
  | .agg l => l.map fun | .lit (.int k z) => .int k z | _ => undef
  | _ => []
def put12c (cs : Array Value) : Obj → Obj
  | .cells _ t frozen => .cells cs t frozen
  | o => o
noncomputable def low12 : Nat := (World.holding Tryz.prog default ⟨#[], #[], []⟩).heap.size
noncomputable def laidWorld12 (os : Os) : World :=
  let w0 := World.holding Tryz.prog os ⟨#[.cells #[.string synS12] 242, .cells #[.string rngS12] 242], #[], []⟩
  { w0 with heap := (((((w0.heap.modify 0 (put12c (vals12 Rows.laid_corbel_codec_nibbles).toArray)).modify 1 (put12c #[.iface 240 (.pointer (some ⟨low12, 0, none⟩))])).modify 2 (put12c #[.iface 240 (.pointer (some ⟨low12 + 1, 0, none⟩))])).modify 3 (put12c (vals12 Rows.laid_internal_strconv_uint64pow10).toArray)).modify 4 (put12c (vals12 Rows.laid_math_bits_deBruijn32tab).toArray)).modify 5 (put12c (vals12 Rows.laid_math_bits_deBruijn64tab).toArray) }
end Go.Proofs.YthlelcmifolnfaaGreatDoor
