import Derived.RangeFuncNested
import Derived.RangeFuncLeaves
import Derived.RangeFuncBound
import Derived.Shelf.Abstract
import Derived.Shelf.RegionOpen
import Derived.WalkKit
import Derived.OwnWalkIn
import Derived.TacticsInMore
import Derived.LoopNIn
import Derived.LoopIn
namespace Go.Proofs.Ytephoegcpjdglaa
open Go.RowKit Go.Shelf

structure Keeps (A B : Nat) (X Y : World) : Prop where
  size : X.heap.size ≤ Y.heap.size
  same : ∀ k, A ≤ k → k < B → Y.heap[k]? = X.heap[k]?

end Go.Proofs.Ytephoegcpjdglaa
