/-
  From a row's own words to this proof's: a slice of texts that came in.
-/
import Derived.Test.YtkjnifipepiahaaDoorSwV
import Derived.ProofKit
import Derived.OpenShut
import Derived.SliceStrings
namespace Go.Proofs.YtkjnifipepiahaaDoor
open Go.ChangeShapes Go.WideShapes Go.ChangeAt Go.RowKit

theorem texts_in {H : Type} {w : World} {a : Option Addr} {n c : Nat} {x : DataW H × List MemPlace} {base : Nat} {spare : Nat → Bool}
    (h : (Value.cells (.slice a n c) |>.toList) = [.slice none 0 0] ∧ x = (.nil, []) ∨
      ∃ (a' : Addr) (len cap : Nat) (ss : List ByteArray), (Value.cells (.slice a n c) |>.toList) = [.slice (some a') len cap] ∧ base ≤ a'.block ∧ len ≤ cap ∧ cap ≤ maxLen ∧ ss.length = (if spare a'.block then cap else len) ∧
        x = (.slice (strs (ss.take len)) (strs (ss.drop len)), MemPlace.row a' ss.length) ∧ (∀ i, i < ss.length → w.cell? (a'.add i) = some (.string (ss.getD i ByteArray.empty))) ∧ (∀ s ∈ ss, s.size ≤ maxLen)) :
    ∃ zs : List ByteArray, zs.length = n ∧ HasT w (.slice a n c) zs ∧ (n : Int) ≤ 9223372036854775807 := by
  rcases h with ⟨hcs, _⟩ | ⟨a', len, cap, ss, hcs, _, hl, hm, hz, _, hcell, _⟩
  · simp [Value.cells] at hcs
    obtain ⟨rfl, rfl, rfl⟩ := hcs
    exact ⟨[], rfl, ⟨none, 0, rfl, Nat.le_refl _, fun _ => rfl, fun h => absurd h (Nat.lt_irrefl 0)⟩, by omega⟩
  · simp [Value.cells] at hcs
    obtain ⟨rfl, rfl, rfl⟩ := hcs
    have hss : n ≤ ss.length := by rw [hz]; split <;> omega
    have hlen : (ss.take n).length = n := by rw [List.length_take]; omega
    refine ⟨ss.take n, hlen, ⟨some a', c, by rw [hlen], by rw [hlen]; exact hl, (fun h => by cases h), fun h0 => ?_⟩, by unfold maxLen at hm; omega⟩
    rw [hlen] at h0 ⊢
    obtain ⟨b, o, s⟩ := a'
    obtain rfl : s = none := by simpa [Addr.add] using World.cell?_spot (hcell 0 (by omega))
    refine ⟨b, o, rfl, World.block_lt_of_cell? w _ (hcell 0 (by omega)), fun i hi => ?_⟩
    rw [← Go.WideShapes.add_plain, hcell i (by omega)]
    simp [hi]
end Go.Proofs.YtkjnifipepiahaaDoor
