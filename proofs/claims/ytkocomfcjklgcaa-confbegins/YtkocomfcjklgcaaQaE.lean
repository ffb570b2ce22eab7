import Derived.Test.YtkocomfcjklgcaaQaS
import Derived.Deep.RegionHeld3
namespace Go.Proofs.Ytkocomfcjklgcaa
open Go.RowKit Go.Shelf

theorem below_drew14 {B k : Nat} {a w : World} (h : Below B a w) : Below B a (w.drewN k) := ⟨h.os, h.tape, h.output, h.size, h.block⟩
theorem HasI.parts14 {w : World} {v : Value} {xs : List Int} (h : HasI w v xs) : ∃ p c, v = .slice p xs.length c ∧ xs.length ≤ c ∧ ∀ i, i < xs.length → ∃ b o, p = some ⟨b, o, none⟩ ∧ b < w.heap.size ∧ w.cell? ⟨b, o + i, none⟩ = some (.int .i64 (xs.getD i 0)) := by
  obtain ⟨p, c, rfl, h1, _, h3⟩ := h
  refine ⟨p, c, rfl, h1, fun i hi => ?_⟩
  obtain ⟨b, o, rfl, hlt, hc⟩ := h3 (by omega)
  exact ⟨b, o, rfl, hlt, hc i hi⟩

end Go.Proofs.Ytkocomfcjklgcaa
