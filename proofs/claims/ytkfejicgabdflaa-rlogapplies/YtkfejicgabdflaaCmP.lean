import Derived.Test.YtkfejicgabdflaaDkBTo
import Derived.Test.YtkfejicgabdflaaW1
import Derived.WalkKit
import Derived.Test.YtkfejicgabdflaaRef7To
import Derived.Test.YtkfejicgabdflaaGet0To
import Derived.Laws.BytesArg
namespace Go.Proofs.Ytkfejicgabdflaa
open Go.RowKit

theorem row_mono {w : World} {B B' : Nat} {e : TypeId} {size n : Nat} {v : Value} {xs : List Value} (h : w.ownsRow B e size v n xs) (hB : B' ≤ B) : w.ownsRow B' e size v n xs := by
  refine ⟨h.1, ?_⟩
  rcases h.2 with hn | ⟨g, cap, cur, rfl, hb1, rest⟩
  · exact .inl hn
  · exact .inr ⟨g, cap, cur, rfl, Nat.le_trans hB hb1, rest⟩

end Go.Proofs.Ytkfejicgabdflaa
