import Derived.Test.YtephoegcpjdglaaEnQTo
import Derived.Test.YtephoegcpjdglaaCmETo
import Derived.Test.YtephoegcpjdglaaLd
import Derived.Laws.ResultCell
import Derived.Laws.Rows
namespace Go.Proofs.Ytephoegcpjdglaa
open Go.RowKit

theorem frozen9 {W : World} {k : Nat} {c : Array Value} {t : TypeId} (h : W.heap[k]? = some (.cells c t (0, 0))) (j : Nat) : W.frozen? ⟨k, j, none⟩ = false := by simp [World.frozen?, h]
theorem set_block9 {w : World} {b : Nat} {c : Array Value} {t : TypeId} (h : w.heap[b]? = some (.cells c t (0, 0))) (i : Nat) (v : Value) (hi : i < c.size) : (w.setCell ⟨b, i, none⟩ v).heap[b]? = some (.cells (c.set i v hi) t (0, 0)) := by
  have hlt := (Array.getElem?_eq_some_iff.1 h).1
  have hg := (Array.getElem?_eq_some_iff.1 h).2
  simp only [World.setCell, Array.getElem?_modify, hlt, Array.getElem?_eq_getElem, hg]
  simp [Array.setIfInBounds, hi]

end Go.Proofs.Ytephoegcpjdglaa
