import Derived.Test.YtephoegcpjdglaaChecked
import Derived.Test.YtephoegcpjdglaaOnceTo
import Derived.Test.YtephoegcpjdglaaGet0To
namespace Go.Proofs.Ytephoegcpjdglaa
open Go.RowKit

theorem ret_int {k : IntKind} {a b : Int} (h : a = b) : Ending.returned (.int k a) = .returned (.int k b) := by rw [h]

end Go.Proofs.Ytephoegcpjdglaa
