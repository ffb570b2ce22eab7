import Derived.Test.YtkfejicgabdflaaChecked
import Derived.Test.YtkfejicgabdflaaOnceTo
import Derived.Test.YtkfejicgabdflaaGet0To
namespace Go.Proofs.Ytkfejicgabdflaa
open Go.RowKit

theorem ret_int {k : IntKind} {a b : Int} (h : a = b) : Ending.returned (.int k a) = .returned (.int k b) := by rw [h]

end Go.Proofs.Ytkfejicgabdflaa
