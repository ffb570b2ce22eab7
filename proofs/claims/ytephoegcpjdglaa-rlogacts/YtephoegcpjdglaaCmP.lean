import Derived.Test.YtephoegcpjdglaaDkBTo
import Derived.Test.YtephoegcpjdglaaW1
import Derived.WalkKit
import Derived.Test.YtephoegcpjdglaaRef7To
import Derived.Test.YtephoegcpjdglaaGet0To
import Derived.Laws.BytesArg
namespace Go.Proofs.Ytephoegcpjdglaa
open Go.RowKit

theorem row_mono {w : World} {B B' : Nat} {e : TypeId} {size n : Nat} {v : Value} {xs : List Value} (h : w.ownsRow B e size v n xs) (hB : B' ≤ B) : w.ownsRow B' e size v n xs := by
  refine ⟨h.1, ?_⟩
  rcases h.2 with hn | ⟨g, cap, cur, rfl, hb1, rest⟩
  · exact .inl hn
  · exact .inr ⟨g, cap, cur, rfl, Nat.le_trans hB hb1, rest⟩

end Go.Proofs.Ytephoegcpjdglaa
