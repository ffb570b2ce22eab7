import Derived.Test.YtgjjbnnojmighaaPgETo
import Derived.Deep.DeepHandedRow
import Derived.ProofKit
import Derived.Deep.SlicePairs
import Derived.SizedLaws
import Derived.ChangeSame
import Derived.OpenShut
import Derived.ShutString
import Derived.ChangeOld
import Derived.Carry
namespace Go.Proofs.Ytgjjbnnojmighaa
open Go.ChangeShapes Go.WideShapes Go.ChangeAt Go.RowKit Go.Deep

section
variable {H : Type} {enc : TypeId × Value → H} {W : World} {spare : Nat → Bool} {held : Bool} {b0 base fuel : Nat}

theorem uints_in16 {a : Option Addr} {n c : Nat} {x : DataW H × List MemPlace} (h : DataW.trod enc Try.prog W base spare held fuel 39 [.slice a n c] = some x) (hw : ∀ q ∈ x.1.weights Try.prog 39, q ≤ reachBytes) :
    ∃ zs : List Int, zs.length = n ∧ HasU16 W (.slice a n c) zs ∧ (∀ z ∈ zs, 0 ≤ z) ∧ n ≤ 140737488351232 := by
  rcases open_ints Try.underlying39 Try.underlying33 (by kernel_rfl) h with ⟨hcs, _⟩ | ⟨a', l, c', zs, hcs, _, hl, hm, hz, hx, hcell, hwz⟩
  · simp only [List.cons.injEq, Value.slice.injEq, and_true] at hcs
    obtain ⟨rfl, rfl, rfl⟩ := hcs
    exact ⟨[], rfl, ⟨none, 0, rfl, Nat.le_refl _, fun _ => rfl, fun h => absurd h (Nat.lt_irrefl 0)⟩, (fun _ h => by cases h), by omega⟩
  · simp only [List.cons.injEq, Value.slice.injEq, and_true] at hcs
    obtain ⟨rfl, rfl, rfl⟩ := hcs
    have hnz : n ≤ zs.length := by rw [hz]; split <;> omega
    have hlen : (zs.take n).length = n := by rw [List.length_take]; omega
    have hs : n ≤ 140737488351232 := by
      have := hw ((((lits IntKind.u64 (zs.take n)) : List (DataW H)).length + ((lits IntKind.u64 (zs.drop n)) : List (DataW H)).length) * Try.prog.bytesOf 33) (by rw [hx]; simp [DataW.weights, Try.underlying39])
      rw [show Try.prog.bytesOf 33 = 8 by kernel_rfl] at this
      simp only [lits, List.length_map, hlen, reachBytes] at this
      omega
    refine ⟨zs.take n, hlen, ⟨some a', c, by rw [hlen], by rw [hlen]; exact hl, (fun h => by cases h), fun h0 => ?_⟩, fun z hz => (bounds_u64 (hwz z (List.mem_of_mem_take hz))).1, hs⟩
    rw [hlen] at h0 ⊢
    obtain ⟨b, o, s⟩ := a'
    obtain rfl : s = none := by simpa [Addr.add] using World.cell?_spot (hcell 0 (by omega))
    refine ⟨b, o, rfl, World.block_lt_of_cell? W _ (hcell 0 (by omega)), fun i hi => ?_⟩
    rw [← Go.WideShapes.add_plain, hcell i (by omega)]
    simp [List.getD_eq_getElem?_getD, hi]

end
end Go.Proofs.Ytgjjbnnojmighaa
