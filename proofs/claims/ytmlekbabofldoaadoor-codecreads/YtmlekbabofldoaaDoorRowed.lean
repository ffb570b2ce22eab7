/-
  From a row's own words to this proof's: a slice of integers that came in; the table.
-/
import Derived.Test.YtmlekbabofldoaaDoorW3
import Derived.ProofKit
import Derived.OpenShut
namespace Go.Proofs.YtmlekbabofldoaaDoor
open Go.ChangeShapes Go.WideShapes Go.ChangeAt Go.RowKit

/-- A slice of integers that came in: nil; or a row of 'cap' cells, the numbers zs, of which the first 'len' are its elements. -/
def IsRow (k : IntKind) (w : World) (a : Option Addr) (len cap : Nat) (zs : List Int) : Prop :=
  (a = none ∧ len = 0 ∧ cap = 0 ∧ zs = []) ∨
  ∃ x, a = some x ∧ len ≤ cap ∧ cap ≤ maxLen ∧ zs.length = cap ∧ (∀ i, i < zs.length → w.cell? (x.add i) = some (.int k (zs.getD i 0))) ∧ ∀ n ∈ zs, (Lit.int k n).wf = true

theorem IsRow.has {w : World} {a : Option Addr} {len cap : Nat} {zs : List Int} (h : IsRow .u8 w a len cap zs) : Has w (.slice a len cap) (zs.take len) ∧ IsB (zs.take len) ∧ (zs.take len).length = len := by
  rcases h with ⟨rfl, rfl, rfl, rfl⟩ | ⟨x, rfl, hl, _, hz, hc, hw⟩
  · exact ⟨⟨none, 0, rfl, by simp, fun _ => rfl, fun h => by simp at h⟩, by simpa using IsB.nil, rfl⟩
  · have hlen : (zs.take len).length = len := by rw [List.length_take]; omega
    refine ⟨⟨some x, cap, by rw [hlen], by rw [hlen]; exact hl, (fun h => by cases h), fun h0 => ?_⟩, fun y hy => bounds_u8 (hw y (List.mem_of_mem_take hy)), hlen⟩
    rw [hlen] at h0 ⊢
    obtain ⟨b, o, s⟩ := x
    obtain rfl : s = none := by simpa [Addr.add] using World.cell?_spot (hc 0 (by omega))
    refine ⟨b, o, rfl, World.block_lt_of_cell? w _ (hc 0 (by omega)), fun i hi => ?_⟩
    rw [← Go.WideShapes.add_plain, hc i (by omega)]
    simp [hi]

theorem IsRow.len_le {k : IntKind} {w : World} {a : Option Addr} {len cap : Nat} {zs : List Int} (h : IsRow k w a len cap zs) : (len : Int) ≤ 9223372036854775807 := by
  rcases h with ⟨rfl, rfl, rfl, rfl⟩ | ⟨x, rfl, hl, hm, _⟩
  · omega
  · unfold maxLen at hm; omega

theorem tab_of {W : World} (h : ∀ i, i < nibs.length → W.cell? ⟨0, i, none⟩ = some (.int .u32 (nibs.getD i 0))) : Tab W :=
  ⟨World.block_lt_of_cell? W _ (h 0 (by decide)), fun i hi => h i hi⟩

end Go.Proofs.YtmlekbabofldoaaDoor
